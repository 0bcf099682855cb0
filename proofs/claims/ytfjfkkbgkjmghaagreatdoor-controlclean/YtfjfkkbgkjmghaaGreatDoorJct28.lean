/- The program's functions of layer 13 behind Value. The program's Value of layer 13. The program's fileValue, startValue, changedValue, written of layer 14. -/
import Derived.Test.YtfjfkkbgkjmghaaGreatDoorJct25
import Derived.Test.YtfjfkkbgkjmghaaGreatDoorJct29
import Derived.Test.YtfjfkkbgkjmghaaGreatDoorJct30
import Derived.Test.YtfjfkkbgkjmghaaGreatDoorJct32

namespace Go.Proofs.YtfjfkkbgkjmghaaGreatDoor
open Go.RowKit
set_option maxRecDepth 100000
set_option maxHeartbeats 8000000 in
theorem clHas1_any (n : ByteArray) (B : Nat) (x : ByteArray × ByteArray) (W : World) (hc : W.cell? ⟨B, 0, none⟩ = some (.string n)) :
    Calls Tryz.prog 112 #[.agg #[.string x.1, .string x.2], .pointer (some ⟨B, 0, none⟩)] W fun e w' => e = .returned (.bool (isN n x)) ∧ Below W.heap.size W w' := by
  have hB := World.block_lt_of_cell? _ _ hc
  have hne : B ≠ W.heap.size := by have : B < W.heap.size := hB; omega
  have E := hide (txt_beq x.1 n)
  unfold isN
  generalize x.1 = a at *
  generalize x.2 = b at *
  generalize hR : decide (a = n) = R at *
  clear hR
  go_enter Tryz.func112, Tryz.ntmps112
  go_wp2_with fail
  go_ret
  exact ⟨ret_bool E.out, (Below.refl _ W).alloc (Nat.le_refl _) _⟩
theorem clHas_pred (n : ByteArray) (w : World) : PredA 112 #[.pointer (some ⟨w.heap.size, 0, none⟩)] (isN n) (w.alloc (.cells #[.string n] 9)) := fun W x hb =>
  clHas1_any n w.heap.size x W ((hb.cell (by simp)).trans (by simp))
theorem entersClHas : ∀ args w, (callFunc 112 args).run Tryz.prog w = .ok (.enter 112 args) w := Go.Proofs.enters_of Tryz.func112 (by kernel_rfl) rfl
set_option maxHeartbeats 8000000 in
theorem clHas_any (v : Value) (ax : List (ByteArray × ByteArray)) (w : World) (hv : AttrsV w v ax) (hz : AxOK ax) (n : ByteArray) :
    Calls Tryz.prog 83 #[v, .string n] w fun e w' => e = .returned (.bool (findA ax n).isSome) ∧ Below w.heap.size w w' := by
  have B0 : Hid (Below w.heap.size w (w.alloc (.cells #[.string n] 9))) := (Below.refl _ w).alloc (Nat.le_refl _) _
  have HC := hide (containsFuncA_any v ax (isN n) 112 #[.pointer (some ⟨w.heap.size, 0, none⟩)] entersClHas (w.alloc (.cells #[.string n] 9)) (hv.below B0.out) (clHas_pred n w) hz.len)
  have E : Hid ((ax.findIdx? (isN n)).isSome = (findA ax n).isSome) := rfl
  rw [E.out] at HC
  generalize (findA ax n).isSome = R at *
  obtain ⟨p, c, rfl, _⟩ := hv
  clear hz E
  go_enter Tryz.func83, Tryz.ntmps83
  go_wp2_with fail
  refine HC.out.mono ?_
  rintro e w1 ⟨rfl, b1⟩
  go_wp2_with fail
  go_ret
  exact ⟨rfl, chain B0.out b1⟩
set_option maxHeartbeats 8000000 in
theorem clBounds_any (v : Value) (ax : List (ByteArray × ByteArray)) (w : World) (hv : AttrsV w v ax) (hz : AxOK ax) (hT : StTabs w) :
    Calls Tryz.prog 120 #[v] w fun e w' => e = .returned (.tuple #[.int .i64 (loK ax), .int .i64 (hiK ax)]) ∧ Below w.heap.size w w' := by
  have H1 := hide (stLeast_any 14 v ax w hv hz hT)
  have H2 := hide (fun W (hb : Below w.heap.size w W) => stMost_any 14 v ax W (hv.below hb) hz (hT.below hb))
  obtain ⟨x1, e1⟩ := least14 ax
  obtain ⟨x2, e2⟩ := most14 ax
  rw [e1] at H1
  rw [e2] at H2
  obtain ⟨p, c, rfl, _⟩ := hv
  clear hz hT e1 e2
  generalize loK ax = lo at *
  generalize hiK ax = hi at *
  go_enter Tryz.func120, Tryz.ntmps120
  go_wp2_with fail
  refine H1.out.mono ?_
  rintro e w1 ⟨rfl, b1⟩
  go_wp2_with fail
  refine (H2.out _ b1).mono ?_
  rintro e w2 ⟨rfl, b2⟩
  go_wp2_with fail
  go_ret2
  exact ⟨rfl, chain b1 b2⟩
set_option maxHeartbeats 8000000 in
theorem clDefault_any (v : Value) (ax : List (ByteArray × ByteArray)) (w : World) (hv : AttrsV w v ax) (hz : AxOK ax) (hT : StTabs w) :
    Calls Tryz.prog 87 #[v] w fun e w' => e = .returned (.int .i64 (defG (loK ax) (hiK ax))) ∧ Below w.heap.size w w' := by
  have HB := hide (clBounds_any v ax w hv hz hT)
  have r1 : -1000000000000000000 ≤ loK ax ∧ loK ax ≤ 1000000000000000000 := least_range 14 ax
  have r2 : -1000000000000000000 ≤ hiK ax ∧ hiK ax ≤ 1000000000000000000 := most_range 14 ax
  obtain ⟨p, c, rfl, _⟩ := hv
  clear hz hT
  generalize loK ax = lo at *
  generalize hiK ax = hi at *
  obtain ⟨a1, a2⟩ := r1
  obtain ⟨a3, a4⟩ := r2
  have E : Hid (defG lo hi = if hi < lo then lo else lo + (hi - lo) / 2) := rfl
  by_cases q : hi < lo
  · rw [if_pos q] at E
    go_enter Tryz.func87, Tryz.ntmps87
    go_wp2_with fail
    refine HB.out.mono ?_
    rintro e w1 ⟨rfl, b1⟩
    go_wp2_with fail
    go_ret
    exact ⟨ret_int E.out.symm, b1⟩
  · rw [if_neg q] at E
    have q2 : 0 ≤ hi - lo := by omega
    go_enter Tryz.func87, Tryz.ntmps87
    go_wp2_with fail
    refine HB.out.mono ?_
    rintro e w1 ⟨rfl, b1⟩
    go_wp2_with fail
    go_ret
    exact ⟨ret_int E.out.symm, b1⟩
set_option maxHeartbeats 8000000 in
theorem clInto_any (v : Value) (ax : List (ByteArray × ByteArray)) (w : World) (hv : AttrsV w v ax) (hz : AxOK ax) (n : Int) (hT : StTabs w) :
    Calls Tryz.prog 89 #[v, .int .i64 n] w fun e w' => e = .returned (.int .i64 (heldG (loK ax) (hiK ax) n)) ∧ Below w.heap.size w w' := by
  have HB := hide (clBounds_any v ax w hv hz hT)
  obtain ⟨p, c, rfl, _⟩ := hv
  clear hz hT
  generalize loK ax = lo at *
  generalize hiK ax = hi at *
  have E : Hid (heldG lo hi n = if n < lo then lo else if hi < n ∧ lo ≤ hi then hi else n) := rfl
  by_cases q1 : n < lo
  · rw [if_pos q1] at E
    go_enter Tryz.func89, Tryz.ntmps89
    go_wp2_with fail
    refine HB.out.mono ?_
    rintro e w1 ⟨rfl, b1⟩
    go_wp2_with fail
    go_ret
    exact ⟨ret_int E.out.symm, b1⟩
  · rw [if_neg q1] at E
    have d1 : decide (n < lo) = false := decide_eq_false q1
    by_cases q2 : hi < n
    · by_cases q3 : lo ≤ hi
      · rw [if_pos ⟨q2, q3⟩] at E
        go_enter Tryz.func89, Tryz.ntmps89
        go_wp2_with fail
        refine HB.out.mono ?_
        rintro e w1 ⟨rfl, b1⟩
        go_wp2_with fail
        go_ret
        exact ⟨ret_int E.out.symm, b1⟩
      · rw [if_neg (fun t => q3 t.2)] at E
        have d3 : decide (lo ≤ hi) = false := decide_eq_false q3
        go_enter Tryz.func89, Tryz.ntmps89
        go_wp2_with fail
        refine HB.out.mono ?_
        rintro e w1 ⟨rfl, b1⟩
        go_wp2_with fail
        go_ret
        exact ⟨ret_int E.out.symm, b1⟩
    · rw [if_neg (fun t => q2 t.1)] at E
      have d2 : decide (hi < n) = false := decide_eq_false q2
      go_enter Tryz.func89, Tryz.ntmps89
      go_wp2_with fail
      refine HB.out.mono ?_
      rintro e w1 ⟨rfl, b1⟩
      go_wp2_with fail
      go_ret
      exact ⟨ret_int E.out.symm, b1⟩
set_option maxHeartbeats 8000000 in
theorem clOnto_any (v : Value) (ax : List (ByteArray × ByteArray)) (w : World) (hv : AttrsV w v ax) (hz : AxOK ax) (n : Int) (n1 : -1000000000000000000 ≤ n) (n2 : n ≤ 1000000000000000000) (hT : StTabs w) :
    Calls Tryz.prog 88 #[v, .int .i64 n] w fun e w' => e = .returned (.int .i64 (stepG (loK ax) (hiK ax) (baseK 14 ax) (stepK 14 ax) n)) ∧ Below w.heap.size w w' := by
  have HB := hide (fun W (hb : Below w.heap.size w W) => clBounds_any v ax W (hv.below hb) hz (hT.below hb))
  have H3 := hide (stStep_any 14 v ax w hv hz hT)
  have H4 := hide (fun W (hb : Below w.heap.size w W) => stBase_any 14 v ax W (hv.below hb) hz (hT.below hb))
  have r1 : -1000000000000000000 ≤ loK ax ∧ loK ax ≤ 1000000000000000000 := least_range 14 ax
  have r2 : -1000000000000000000 ≤ hiK ax ∧ hiK ax ≤ 1000000000000000000 := most_range 14 ax
  have r3 := base_range 14 ax
  have SR := hide (fun st => step_range 14 ax (b := st))
  obtain ⟨p, c, rfl, _⟩ := hv
  clear hz hT
  generalize loK ax = lo at *
  generalize hiK ax = hi at *
  generalize baseK 14 ax = bs at *
  generalize stepK 14 ax = S at *
  obtain ⟨a1, a2⟩ := r1
  obtain ⟨a3, a4⟩ := r2
  obtain ⟨a5, a6⟩ := r3
  unfold optV at H3
  cases S with
  | none =>
    have E : Hid (stepG lo hi bs none n = n) := rfl
    rw [show optI none = 0 from rfl, show (none : Option Int).isSome = false from rfl] at H3
    clear SR HB
    go_enter Tryz.func88, Tryz.ntmps88
    go_wp2_with fail
    refine H3.out.mono ?_
    rintro e w1 ⟨rfl, b1⟩
    go_wp2_with fail
    refine (H4.out _ b1).mono ?_
    rintro e w2 ⟨rfl, b2⟩
    have B2 := hide (chain b1 b2)
    clear b1 b2
    go_wp2_with fail
    go_ret
    exact ⟨ret_int E.out.symm, B2.out⟩
  | some st =>
    obtain ⟨s1, s2⟩ := SR.out st rfl
    rw [show optI (some st) = st from rfl, show (some st).isSome = true from rfl] at H3
    have HF := hide (fun W => fits_any n bs st W (by omega) (by omega) (by omega) (by omega) (by omega) (by omega))
    have HDo := hide (fun W => down_any n bs st W (by omega) (by omega) (by omega) (by omega) (by omega) (by omega))
    obtain ⟨k1, k2⟩ := down_ok (n := n) (base := bs) s1 n1 s2
    rw [k1, k2] at HDo
    obtain ⟨_, _, l1, l2⟩ := lo_fits (n := n) (base := bs) s1
    have E : Hid (stepG lo hi bs (some st) n = if fitV n bs st = true then n else if loG n bs st + st ≤ hi ∧ (loG n bs st + st - n ≤ n - loG n bs st ∨ loG n bs st < lo) then loG n bs st + st else if lo ≤ loG n bs st then loG n bs st else n) := rfl
    generalize stepG lo hi bs (some st) n = R at *
    generalize loG n bs st = d at *
    clear SR k1 k2
    cases q : fitV n bs st with
    | true =>
      rw [if_pos q] at E
      rw [q] at HF
      clear HDo HB q
      go_enter Tryz.func88, Tryz.ntmps88
      go_wp2_with fail
      refine H3.out.mono ?_
      rintro e w1 ⟨rfl, b1⟩
      go_wp2_with fail
      refine (H4.out _ b1).mono ?_
      rintro e w2 ⟨rfl, b2⟩
      have B2 := hide (chain b1 b2)
      clear b1 b2
      go_wp2_with fail
      refine (HF.out _).mono ?_
      rintro e w3 ⟨rfl, h3⟩
      obtain rfl : w2 = w3 := h3.symm
      go_wp2_with fail
      go_ret
      exact ⟨ret_int E.out.symm, B2.out⟩
    | false =>
      rw [if_neg (by rw [q]; decide)] at E
      rw [q] at HF
      clear q
      by_cases q1 : d + st ≤ hi
      · by_cases q2 : d + st - n ≤ n - d
        · rw [if_pos ⟨q1, .inl q2⟩] at E
          go_enter Tryz.func88, Tryz.ntmps88
          go_wp2_with fail
          refine H3.out.mono ?_
          rintro e w1 ⟨rfl, b1⟩
          go_wp2_with fail
          refine (H4.out _ b1).mono ?_
          rintro e w2 ⟨rfl, b2⟩
          have B2 := hide (chain b1 b2)
          clear b1 b2
          go_wp2_with fail
          refine (HF.out _).mono ?_
          rintro e w3 ⟨rfl, h3⟩
          obtain rfl : w2 = w3 := h3.symm
          go_wp2_with fail
          refine (HDo.out _).mono ?_
          rintro e w4 ⟨rfl, h4⟩
          obtain rfl : w2 = w4 := h4.symm
          go_wp2_with fail
          refine (HB.out _ B2.out).mono ?_
          rintro e w5 ⟨rfl, b5⟩
          go_wp2_with fail
          go_ret
          exact ⟨ret_int E.out.symm, chain B2.out b5⟩
        · have e2 : decide (d + st - n ≤ n - d) = false := decide_eq_false q2
          by_cases q3 : d < lo
          · rw [if_pos ⟨q1, .inr q3⟩] at E
            go_enter Tryz.func88, Tryz.ntmps88
            go_wp2_with fail
            refine H3.out.mono ?_
            rintro e w1 ⟨rfl, b1⟩
            go_wp2_with fail
            refine (H4.out _ b1).mono ?_
            rintro e w2 ⟨rfl, b2⟩
            have B2 := hide (chain b1 b2)
            clear b1 b2
            go_wp2_with fail
            refine (HF.out _).mono ?_
            rintro e w3 ⟨rfl, h3⟩
            obtain rfl : w2 = w3 := h3.symm
            go_wp2_with fail
            refine (HDo.out _).mono ?_
            rintro e w4 ⟨rfl, h4⟩
            obtain rfl : w2 = w4 := h4.symm
            go_wp2_with fail
            refine (HB.out _ B2.out).mono ?_
            rintro e w5 ⟨rfl, b5⟩
            go_wp2_with fail
            go_ret
            exact ⟨ret_int E.out.symm, chain B2.out b5⟩
          · have e3 : decide (d < lo) = false := decide_eq_false q3
            have q4 : lo ≤ d := by omega
            rw [if_neg (fun t => t.2.elim q2 q3), if_pos q4] at E
            go_enter Tryz.func88, Tryz.ntmps88
            go_wp2_with fail
            refine H3.out.mono ?_
            rintro e w1 ⟨rfl, b1⟩
            go_wp2_with fail
            refine (H4.out _ b1).mono ?_
            rintro e w2 ⟨rfl, b2⟩
            have B2 := hide (chain b1 b2)
            clear b1 b2
            go_wp2_with fail
            refine (HF.out _).mono ?_
            rintro e w3 ⟨rfl, h3⟩
            obtain rfl : w2 = w3 := h3.symm
            go_wp2_with fail
            refine (HDo.out _).mono ?_
            rintro e w4 ⟨rfl, h4⟩
            obtain rfl : w2 = w4 := h4.symm
            go_wp2_with fail
            refine (HB.out _ B2.out).mono ?_
            rintro e w5 ⟨rfl, b5⟩
            go_wp2_with fail
            go_ret
            exact ⟨ret_int E.out.symm, chain B2.out b5⟩
      · have e1 : decide (d + st ≤ hi) = false := decide_eq_false q1
        by_cases q4 : lo ≤ d
        · rw [if_neg (fun t => q1 t.1), if_pos q4] at E
          go_enter Tryz.func88, Tryz.ntmps88
          go_wp2_with fail
          refine H3.out.mono ?_
          rintro e w1 ⟨rfl, b1⟩
          go_wp2_with fail
          refine (H4.out _ b1).mono ?_
          rintro e w2 ⟨rfl, b2⟩
          have B2 := hide (chain b1 b2)
          clear b1 b2
          go_wp2_with fail
          refine (HF.out _).mono ?_
          rintro e w3 ⟨rfl, h3⟩
          obtain rfl : w2 = w3 := h3.symm
          go_wp2_with fail
          refine (HDo.out _).mono ?_
          rintro e w4 ⟨rfl, h4⟩
          obtain rfl : w2 = w4 := h4.symm
          go_wp2_with fail
          refine (HB.out _ B2.out).mono ?_
          rintro e w5 ⟨rfl, b5⟩
          go_wp2_with fail
          go_ret
          exact ⟨ret_int E.out.symm, chain B2.out b5⟩
        · have e4 : decide (lo ≤ d) = false := decide_eq_false q4
          rw [if_neg (fun t => q1 t.1), if_neg q4] at E
          go_enter Tryz.func88, Tryz.ntmps88
          go_wp2_with fail
          refine H3.out.mono ?_
          rintro e w1 ⟨rfl, b1⟩
          go_wp2_with fail
          refine (H4.out _ b1).mono ?_
          rintro e w2 ⟨rfl, b2⟩
          have B2 := hide (chain b1 b2)
          clear b1 b2
          go_wp2_with fail
          refine (HF.out _).mono ?_
          rintro e w3 ⟨rfl, h3⟩
          obtain rfl : w2 = w3 := h3.symm
          go_wp2_with fail
          refine (HDo.out _).mono ?_
          rintro e w4 ⟨rfl, h4⟩
          obtain rfl : w2 = w4 := h4.symm
          go_wp2_with fail
          refine (HB.out _ B2.out).mono ?_
          rintro e w5 ⟨rfl, b5⟩
          go_wp2_with fail
          go_ret
          exact ⟨ret_int E.out.symm, chain B2.out b5⟩
set_option maxHeartbeats 8000000 in
theorem clRange_any (v : Value) (ax : List (ByteArray × ByteArray)) (w : World) (hv : AttrsV w v ax) (hz : AxOK ax) (s : ByteArray) (hs : s.size ≤ 100000) (hT : StTabs w) :
    Calls Tryz.prog 63 #[v, .string s] w fun e w' => e = .returned (.string (txt (rangeT ax s.data.toList))) ∧ Below w.heap.size w w' := by
  have H5 := hide (stValue_any 14 s w hs hT)
  have H6 := hide (fun W (hb : Below w.heap.size w W) => clDefault_any v ax W (hv.below hb) hz (hT.below hb))
  have RR := rangeK_range ax s.data.toList
  have HSh := hide (fun W (hb : Below w.heap.size w W) => stShow_any (k := 14) (n := rangeK ax s.data.toList) (o := some (showL (rangeK ax s.data.toList))) (.inl ⟨.inr rfl, .inl ⟨RR.1, RR.2, rfl⟩⟩) W (by omega) (by omega) (hT.below hb))
  rw [show txtV (some (showL (rangeK ax s.data.toList))) = .tuple #[.string (txt (showL (rangeK ax s.data.toList))), .bool true] from rfl] at HSh
  have HC := hide (fun W => clone_any s W (by omega))
  have d0 : -1000000000000000000 ≤ (numK 14 s.data.toList).getD (defG (loK ax) (hiK ax)) ∧ (numK 14 s.data.toList).getD (defG (loK ax) (hiK ax)) ≤ 1000000000000000000 := by
    have r1 : -1000000000000000000 ≤ loK ax ∧ loK ax ≤ 1000000000000000000 := least_range 14 ax
    have r2 : -1000000000000000000 ≤ hiK ax ∧ hiK ax ≤ 1000000000000000000 := most_range 14 ax
    cases h : numK 14 s.data.toList with
    | none =>
      show -1000000000000000000 ≤ defG (loK ax) (hiK ax) ∧ defG (loK ax) (hiK ax) ≤ 1000000000000000000
      unfold defG
      split <;> omega
    | some n => exact num_range h
  obtain ⟨n0, hn0⟩ : ∃ n0, (numK 14 s.data.toList).getD (defG (loK ax) (hiK ax)) = n0 := ⟨_, rfl⟩
  rw [hn0] at d0
  have bn : -1000000000000000000 ≤ heldG (loK ax) (hiK ax) n0 ∧ heldG (loK ax) (hiK ax) n0 ≤ 1000000000000000000 := by
    have r1 : -1000000000000000000 ≤ loK ax ∧ loK ax ≤ 1000000000000000000 := least_range 14 ax
    have r2 : -1000000000000000000 ≤ hiK ax ∧ hiK ax ≤ 1000000000000000000 := most_range 14 ax
    unfold heldG
    split
    · omega
    · split <;> omega
  have HI := hide (fun W (hb : Below w.heap.size w W) => clInto_any v ax W (hv.below hb) hz n0 (hT.below hb))
  have HO := hide (fun W (hb : Below w.heap.size w W) => clOnto_any v ax W (hv.below hb) hz (heldG (loK ax) (hiK ax) n0) bn.1 bn.2 (hT.below hb))
  have EK : stepG (loK ax) (hiK ax) (baseK 14 ax) (stepK 14 ax) (heldG (loK ax) (hiK ax) n0) = rangeK ax s.data.toList := by rw [← hn0]; rfl
  rw [EK] at HO
  have ET : Hid (rangeT ax s.data.toList = if numK 14 s.data.toList = some (rangeK ax s.data.toList) then s.data.toList else showL (rangeK ax s.data.toList)) := rfl
  obtain ⟨p, c, rfl, _⟩ := hv
  clear hz hs hT RR d0 bn EK
  generalize heldG (loK ax) (hiK ax) n0 = n1 at *
  generalize defG (loK ax) (hiK ax) = df at *
  generalize rangeK ax s.data.toList = rk at *
  generalize numK 14 s.data.toList = own at *
  generalize rangeT ax s.data.toList = rt at *
  unfold optV at H5
  cases own with
  | none =>
    obtain rfl : df = n0 := hn0
    rw [show optI none = 0 from rfl, show (none : Option Int).isSome = false from rfl] at H5
    rw [if_neg (by intro t; cases t)] at ET
    have ES : Hid (txt (showL rk) = txt rt) := by show _ = _; rw [ET.out]
    generalize txt (showL rk) = x at *
    clear ET HC
    go_enter Tryz.func63, Tryz.ntmps63
    go_wp2_with fail
    refine H5.out.mono ?_
    rintro e w1 ⟨rfl, b1⟩
    go_wp2_with fail
    refine (H6.out _ b1).mono ?_
    rintro e w2 ⟨rfl, b2⟩
    have B2 := hide (chain b1 b2)
    clear b1 b2 H6
    go_wp2_with fail
    refine (HI.out _ B2.out).mono ?_
    rintro e w3 ⟨rfl, b3⟩
    have B3 := hide (chain B2.out b3)
    clear b3 B2 HI
    go_wp2_with fail
    refine (HO.out _ B3.out).mono ?_
    rintro e w4 ⟨rfl, b4⟩
    have B4 := hide (chain B3.out b4)
    clear b4 B3 HO
    go_wp2_with fail
    refine (HSh.out _ B4.out).mono ?_
    rintro e w6 ⟨rfl, b6⟩
    go_wp2_with fail
    go_ret
    exact ⟨ret_txt ES.out, chain B4.out b6⟩
  | some m =>
    obtain rfl : m = n0 := hn0
    rw [show optI (some m) = m from rfl, show (some m).isSome = true from rfl] at H5
    by_cases f : rk = m
    · subst f
      rw [if_pos rfl] at ET
      have ES : Hid (s = txt rt) := by show _ = _; rw [ET.out]; exact (txt_back s).symm
      clear ET HSh H6
      go_enter Tryz.func63, Tryz.ntmps63
      go_wp2_with fail
      refine H5.out.mono ?_
      rintro e w1 ⟨rfl, b1⟩
      have B2 := hide b1
      clear b1
      go_wp2_with fail
      refine (HI.out _ B2.out).mono ?_
      rintro e w3 ⟨rfl, b3⟩
      have B3 := hide (chain B2.out b3)
      clear b3 B2 HI
      go_wp2_with fail
      refine (HO.out _ B3.out).mono ?_
      rintro e w4 ⟨rfl, b4⟩
      have B4 := hide (chain B3.out b4)
      clear b4 B3 HO
      go_wp2_with fail
      refine (HC.out _).mono ?_
      rintro e w6 ⟨rfl, b6⟩
      go_wp2_with fail
      go_ret
      exact ⟨ret_txt ES.out, chain B4.out b6⟩
    · rw [if_neg (by intro t; cases t; exact f rfl)] at ET
      have ES : Hid (txt (showL rk) = txt rt) := by show _ = _; rw [ET.out]
      generalize txt (showL rk) = x at *
      have nf : (rk == m) = false := beq_eq_false_iff_ne.2 f
      clear ET HC H6
      go_enter Tryz.func63, Tryz.ntmps63
      go_wp2_with fail
      refine H5.out.mono ?_
      rintro e w1 ⟨rfl, b1⟩
      have B2 := hide b1
      clear b1
      go_wp2_with fail
      refine (HI.out _ B2.out).mono ?_
      rintro e w3 ⟨rfl, b3⟩
      have B3 := hide (chain B2.out b3)
      clear b3 B2 HI
      go_wp2_with fail
      refine (HO.out _ B3.out).mono ?_
      rintro e w4 ⟨rfl, b4⟩
      have B4 := hide (chain B3.out b4)
      clear b4 B3 HO
      go_wp2_with fail
      refine (HSh.out _ B4.out).mono ?_
      rintro e w6 ⟨rfl, b6⟩
      go_wp2_with fail
      go_ret
      exact ⟨ret_txt ES.out, chain B4.out b6⟩
set_option maxHeartbeats 8000000 in
theorem clMail_y (v : Value) (ax : List (ByteArray × ByteArray)) (w : World) (hv : AttrsV w v ax) (hz : AxOK ax) (s : ByteArray) (hs : s.size ≤ 100000) (hf : (findA ax multS).isSome = true) (hT : StTabs w) :
    Calls Tryz.prog 60 #[v, .string s] w fun e w' => e = .returned (.string (txt (cleanM s.data.toList))) ∧ Below w.heap.size w w' := by
  have HH := hide (clHas_any v ax w hv hz multS)
  rw [hf, show multS = ⟨#[109, 117, 108, 116, 105, 112, 108, 101]⟩ from rfl] at HH
  have HM := hide (fun W (hb : Below w.heap.size w W) => mailClean_any s W hs (hT.below hb).max)
  generalize txt (cleanM s.data.toList) = x at *
  obtain ⟨p, c, rfl, _⟩ := hv
  clear hz hs hf hT
  go_enter Tryz.func60, Tryz.ntmps60
  go_wp2_with fail
  refine HH.out.mono ?_
  rintro e w1 ⟨rfl, b1⟩
  go_wp2_with fail
  refine (HM.out _ b1).mono ?_
  rintro e w2 ⟨rfl, b2⟩
  go_wp2_with fail
  go_ret
  exact ⟨rfl, chain b1 b2⟩
set_option maxHeartbeats 8000000 in
theorem clMail_n (v : Value) (ax : List (ByteArray × ByteArray)) (w : World) (hv : AttrsV w v ax) (hz : AxOK ax) (s : ByteArray) (hs : s.size ≤ 100000) (hf : (findA ax multS).isSome = false) (hT : StTabs w) :
    Calls Tryz.prog 60 #[v, .string s] w fun e w' => e = .returned (.string (txt (trimM s.data.toList))) ∧ Below w.heap.size w w' := by
  have HH := hide (clHas_any v ax w hv hz multS)
  rw [hf, show multS = ⟨#[109, 117, 108, 116, 105, 112, 108, 101]⟩ from rfl] at HH
  have HM := hide (fun W (hb : Below w.heap.size w W) => mailTrim_any s W hs (hT.below hb).max)
  generalize txt (trimM s.data.toList) = x at *
  obtain ⟨p, c, rfl, _⟩ := hv
  clear hz hs hf hT
  go_enter Tryz.func60, Tryz.ntmps60
  go_wp2_with fail
  refine HH.out.mono ?_
  rintro e w1 ⟨rfl, b1⟩
  go_wp2_with fail
  refine (HM.out _ b1).mono ?_
  rintro e w2 ⟨rfl, b2⟩
  go_wp2_with fail
  go_ret
  exact ⟨rfl, chain b1 b2⟩
set_option maxHeartbeats 8000000 in
theorem clCount_y (k : Int) (s : ByteArray) (w : World) (hs : s.size ≤ 100000) (hb : (numK k s.data.toList).isSome = true) (hT : StTabs w) :
    Calls Tryz.prog 61 #[.int .i64 k, .string s] w fun e w' => e = .returned (.string s) ∧ Below w.heap.size w w' := by
  have HV := hide (stValue_any k s w hs hT)
  have HC := hide (fun W => clone_any s W (by omega))
  unfold optV at HV
  rw [hb] at HV
  generalize optI (numK k s.data.toList) = vn at *
  clear hs hb hT
  go_enter Tryz.func61, Tryz.ntmps61
  go_wp2_with fail
  refine HV.out.mono ?_
  rintro e w1 ⟨rfl, b1⟩
  go_wp2_with fail
  refine (HC.out _).mono ?_
  rintro e w2 ⟨rfl, b2⟩
  go_wp2_with fail
  go_ret
  exact ⟨rfl, chain b1 b2⟩
set_option maxHeartbeats 8000000 in
theorem clCount_n (k : Int) (s : ByteArray) (w : World) (hs : s.size ≤ 100000) (hb : (numK k s.data.toList).isSome = false) (hT : StTabs w) :
    Calls Tryz.prog 61 #[.int .i64 k, .string s] w fun e w' => e = .returned (.string ⟨#[]⟩) ∧ Below w.heap.size w w' := by
  have HV := hide (stValue_any k s w hs hT)
  unfold optV at HV
  rw [hb] at HV
  generalize optI (numK k s.data.toList) = vn at *
  clear hs hb hT
  go_enter Tryz.func61, Tryz.ntmps61
  go_wp2_with fail
  refine HV.out.mono ?_
  rintro e w1 ⟨rfl, b1⟩
  go_wp2_with fail
  go_ret
  exact ⟨rfl, b1⟩
set_option maxHeartbeats 8000000 in
theorem clLocal_n (s : ByteArray) (w : World) (hs : s.size ≤ 100000) (hb : numK 12 s.data.toList = none) (hT : StTabs w) :
    Calls Tryz.prog 62 #[.string s] w fun e w' => e = .returned (.string ⟨#[]⟩) ∧ Below w.heap.size w w' := by
  have HV := hide (stValue_any 12 s w hs hT)
  rw [hb, show optV none = .tuple #[.int .i64 0, .bool false] from rfl] at HV
  clear hs hb hT
  go_enter Tryz.func62, Tryz.ntmps62
  go_wp2_with fail
  refine HV.out.mono ?_
  rintro e w1 ⟨rfl, b1⟩
  go_wp2_with fail
  go_ret
  exact ⟨rfl, b1⟩
set_option maxHeartbeats 8000000 in
theorem clLocal_y (s : ByteArray) (w : World) (hs : s.size ≤ 100000) (n : Int) (t : List UInt8) (hb : numK 12 s.data.toList = some n) (ho : ShK 12 n (some t)) (hT : StTabs w) :
    Calls Tryz.prog 62 #[.string s] w fun e w' => e = .returned (.string (txt t)) ∧ Below w.heap.size w w' := by
  have HV := hide (stValue_any 12 s w hs hT)
  have HN := hide (fun W (q : Below w.heap.size w W) => stShow_any ho W (by have := num_range hb; omega) (by have := num_range hb; omega) (hT.below q))
  rw [hb, show optV (some n) = .tuple #[.int .i64 n, .bool true] from rfl] at HV
  rw [show txtV (some t) = .tuple #[.string (txt t), .bool true] from rfl] at HN
  generalize txt t = ox at *
  clear hs ho hb hT
  go_enter Tryz.func62, Tryz.ntmps62
  go_wp2_with fail
  refine HV.out.mono ?_
  rintro e w1 ⟨rfl, b1⟩
  go_wp2_with fail
  refine (HN.out _ b1).mono ?_
  rintro e w2 ⟨rfl, b2⟩
  go_wp2_with fail
  go_ret
  exact ⟨rfl, chain b1 b2⟩
end Go.Proofs.YtfjfkkbgkjmghaaGreatDoor

namespace Go.Proofs.YtfjfkkbgkjmghaaGreatDoor
open Go.RowKit
set_option maxRecDepth 100000
abbrev ClTabs (w : World) : Prop := StTabs w
theorem ClTabs.below {w w' : World} (h : ClTabs w) (hb : Below w.heap.size w w') : ClTabs w' := StTabs.below h hb
set_option maxHeartbeats 8000000 in
theorem clV_2 (v : Value) (ax : List (ByteArray × ByteArray)) (w : World) (hv : AttrsV w v ax) (_hz : AxOK ax) (s : ByteArray)  (hs : s.size ≤ 100000) (_hT : ClTabs w) :
    Calls Tryz.prog 42 #[.int .i64 2, v, .string s] w fun e w' => e = .returned (.string (txt (noBrL s.data.toList))) ∧ Below w.heap.size w w' := by
  have HN := hide (noBreaks_any s w (by omega))
  obtain ⟨p, c, rfl, _⟩ := hv
  clear hs
  go_enter Tryz.func42, Tryz.ntmps42
  go_wp2_with fail
  refine HN.out.mono ?_
  rintro e w1 ⟨rfl, b1⟩
  go_wp2_with fail
  go_ret
  exact ⟨rfl, b1⟩
set_option maxHeartbeats 8000000 in
theorem clV_3 (v : Value) (ax : List (ByteArray × ByteArray)) (w : World) (hv : AttrsV w v ax) (_hz : AxOK ax) (s : ByteArray)  (hs : s.size ≤ 100000) (_hT : ClTabs w) :
    Calls Tryz.prog 42 #[.int .i64 3, v, .string s] w fun e w' => e = .returned (.string (txt (noBrL s.data.toList))) ∧ Below w.heap.size w w' := by
  have HN := hide (noBreaks_any s w (by omega))
  obtain ⟨p, c, rfl, _⟩ := hv
  clear hs
  go_enter Tryz.func42, Tryz.ntmps42
  go_wp2_with fail
  refine HN.out.mono ?_
  rintro e w1 ⟨rfl, b1⟩
  go_wp2_with fail
  go_ret
  exact ⟨rfl, b1⟩
set_option maxHeartbeats 8000000 in
theorem clV_4 (v : Value) (ax : List (ByteArray × ByteArray)) (w : World) (hv : AttrsV w v ax) (_hz : AxOK ax) (s : ByteArray)  (hs : s.size ≤ 100000) (_hT : ClTabs w) :
    Calls Tryz.prog 42 #[.int .i64 4, v, .string s] w fun e w' => e = .returned (.string (txt (noBrL s.data.toList))) ∧ Below w.heap.size w w' := by
  have HN := hide (noBreaks_any s w (by omega))
  obtain ⟨p, c, rfl, _⟩ := hv
  clear hs
  go_enter Tryz.func42, Tryz.ntmps42
  go_wp2_with fail
  refine HN.out.mono ?_
  rintro e w1 ⟨rfl, b1⟩
  go_wp2_with fail
  go_ret
  exact ⟨rfl, b1⟩
set_option maxHeartbeats 8000000 in
theorem clV_7 (v : Value) (ax : List (ByteArray × ByteArray)) (w : World) (hv : AttrsV w v ax) (_hz : AxOK ax) (s : ByteArray)  (hs : s.size ≤ 100000) (_hT : ClTabs w) :
    Calls Tryz.prog 42 #[.int .i64 7, v, .string s] w fun e w' => e = .returned (.string (txt (noBrL s.data.toList))) ∧ Below w.heap.size w w' := by
  have HN := hide (noBreaks_any s w (by omega))
  obtain ⟨p, c, rfl, _⟩ := hv
  clear hs
  go_enter Tryz.func42, Tryz.ntmps42
  go_wp2_with fail
  refine HN.out.mono ?_
  rintro e w1 ⟨rfl, b1⟩
  go_wp2_with fail
  go_ret
  exact ⟨rfl, b1⟩
set_option maxHeartbeats 8000000 in
theorem clV_5 (v : Value) (ax : List (ByteArray × ByteArray)) (w : World) (hv : AttrsV w v ax) (_hz : AxOK ax) (s : ByteArray)  (hs : s.size ≤ 100000) (hT : ClTabs w) :
    Calls Tryz.prog 42 #[.int .i64 5, v, .string s] w fun e w' => e = .returned (.string (txt (trimM s.data.toList))) ∧ Below w.heap.size w w' := by
  have HN := hide (mailTrim_any s w hs hT.max)
  obtain ⟨p, c, rfl, _⟩ := hv
  clear hs hT
  go_enter Tryz.func42, Tryz.ntmps42
  go_wp2_with fail
  refine HN.out.mono ?_
  rintro e w1 ⟨rfl, b1⟩
  go_wp2_with fail
  go_ret
  exact ⟨rfl, b1⟩
set_option maxHeartbeats 8000000 in
theorem clV_6y (v : Value) (ax : List (ByteArray × ByteArray)) (w : World) (hv : AttrsV w v ax) (hz : AxOK ax) (s : ByteArray) (hf : (findA ax multS).isSome = true) (hs : s.size ≤ 100000) (hT : ClTabs w) :
    Calls Tryz.prog 42 #[.int .i64 6, v, .string s] w fun e w' => e = .returned (.string (txt (cleanM s.data.toList))) ∧ Below w.heap.size w w' := by
  have HN := hide (clMail_y v ax w hv hz s hs hf hT)
  obtain ⟨p, c, rfl, _⟩ := hv
  clear hz hs hT hf
  go_enter Tryz.func42, Tryz.ntmps42
  go_wp2_with fail
  refine HN.out.mono ?_
  rintro e w1 ⟨rfl, b1⟩
  go_wp2_with fail
  go_ret
  exact ⟨rfl, b1⟩
set_option maxHeartbeats 8000000 in
theorem clV_6n (v : Value) (ax : List (ByteArray × ByteArray)) (w : World) (hv : AttrsV w v ax) (hz : AxOK ax) (s : ByteArray) (hf : (findA ax multS).isSome = false) (hs : s.size ≤ 100000) (hT : ClTabs w) :
    Calls Tryz.prog 42 #[.int .i64 6, v, .string s] w fun e w' => e = .returned (.string (txt (trimM s.data.toList))) ∧ Below w.heap.size w w' := by
  have HN := hide (clMail_n v ax w hv hz s hs hf hT)
  obtain ⟨p, c, rfl, _⟩ := hv
  clear hz hs hT hf
  go_enter Tryz.func42, Tryz.ntmps42
  go_wp2_with fail
  refine HN.out.mono ?_
  rintro e w1 ⟨rfl, b1⟩
  go_wp2_with fail
  go_ret
  exact ⟨rfl, b1⟩
set_option maxHeartbeats 8000000 in
theorem clV_8y (v : Value) (ax : List (ByteArray × ByteArray)) (w : World) (hv : AttrsV w v ax) (_hz : AxOK ax) (s : ByteArray) (hf : (numK 8 s.data.toList).isSome = true) (hs : s.size ≤ 100000) (hT : ClTabs w) :
    Calls Tryz.prog 42 #[.int .i64 8, v, .string s] w fun e w' => e = .returned (.string s) ∧ Below w.heap.size w w' := by
  have HN := hide (clCount_y 8 s w hs hf hT)
  obtain ⟨p, c, rfl, _⟩ := hv
  clear hs hT hf
  go_enter Tryz.func42, Tryz.ntmps42
  go_wp2_with fail
  refine HN.out.mono ?_
  rintro e w1 ⟨rfl, b1⟩
  go_wp2_with fail
  go_ret
  exact ⟨rfl, b1⟩
set_option maxHeartbeats 8000000 in
theorem clV_8n (v : Value) (ax : List (ByteArray × ByteArray)) (w : World) (hv : AttrsV w v ax) (_hz : AxOK ax) (s : ByteArray) (hf : (numK 8 s.data.toList).isSome = false) (hs : s.size ≤ 100000) (hT : ClTabs w) :
    Calls Tryz.prog 42 #[.int .i64 8, v, .string s] w fun e w' => e = .returned (.string ⟨#[]⟩) ∧ Below w.heap.size w w' := by
  have HN := hide (clCount_n 8 s w hs hf hT)
  obtain ⟨p, c, rfl, _⟩ := hv
  clear hs hT hf
  go_enter Tryz.func42, Tryz.ntmps42
  go_wp2_with fail
  refine HN.out.mono ?_
  rintro e w1 ⟨rfl, b1⟩
  go_wp2_with fail
  go_ret
  exact ⟨rfl, b1⟩
set_option maxHeartbeats 8000000 in
theorem clV_9y (v : Value) (ax : List (ByteArray × ByteArray)) (w : World) (hv : AttrsV w v ax) (_hz : AxOK ax) (s : ByteArray) (hf : (numK 9 s.data.toList).isSome = true) (hs : s.size ≤ 100000) (hT : ClTabs w) :
    Calls Tryz.prog 42 #[.int .i64 9, v, .string s] w fun e w' => e = .returned (.string s) ∧ Below w.heap.size w w' := by
  have HN := hide (clCount_y 9 s w hs hf hT)
  obtain ⟨p, c, rfl, _⟩ := hv
  clear hs hT hf
  go_enter Tryz.func42, Tryz.ntmps42
  go_wp2_with fail
  refine HN.out.mono ?_
  rintro e w1 ⟨rfl, b1⟩
  go_wp2_with fail
  go_ret
  exact ⟨rfl, b1⟩
set_option maxHeartbeats 8000000 in
theorem clV_9n (v : Value) (ax : List (ByteArray × ByteArray)) (w : World) (hv : AttrsV w v ax) (_hz : AxOK ax) (s : ByteArray) (hf : (numK 9 s.data.toList).isSome = false) (hs : s.size ≤ 100000) (hT : ClTabs w) :
    Calls Tryz.prog 42 #[.int .i64 9, v, .string s] w fun e w' => e = .returned (.string ⟨#[]⟩) ∧ Below w.heap.size w w' := by
  have HN := hide (clCount_n 9 s w hs hf hT)
  obtain ⟨p, c, rfl, _⟩ := hv
  clear hs hT hf
  go_enter Tryz.func42, Tryz.ntmps42
  go_wp2_with fail
  refine HN.out.mono ?_
  rintro e w1 ⟨rfl, b1⟩
  go_wp2_with fail
  go_ret
  exact ⟨rfl, b1⟩
set_option maxHeartbeats 8000000 in
theorem clV_10y (v : Value) (ax : List (ByteArray × ByteArray)) (w : World) (hv : AttrsV w v ax) (_hz : AxOK ax) (s : ByteArray) (hf : (numK 10 s.data.toList).isSome = true) (hs : s.size ≤ 100000) (hT : ClTabs w) :
    Calls Tryz.prog 42 #[.int .i64 10, v, .string s] w fun e w' => e = .returned (.string s) ∧ Below w.heap.size w w' := by
  have HN := hide (clCount_y 10 s w hs hf hT)
  obtain ⟨p, c, rfl, _⟩ := hv
  clear hs hT hf
  go_enter Tryz.func42, Tryz.ntmps42
  go_wp2_with fail
  refine HN.out.mono ?_
  rintro e w1 ⟨rfl, b1⟩
  go_wp2_with fail
  go_ret
  exact ⟨rfl, b1⟩
set_option maxHeartbeats 8000000 in
theorem clV_10n (v : Value) (ax : List (ByteArray × ByteArray)) (w : World) (hv : AttrsV w v ax) (_hz : AxOK ax) (s : ByteArray) (hf : (numK 10 s.data.toList).isSome = false) (hs : s.size ≤ 100000) (hT : ClTabs w) :
    Calls Tryz.prog 42 #[.int .i64 10, v, .string s] w fun e w' => e = .returned (.string ⟨#[]⟩) ∧ Below w.heap.size w w' := by
  have HN := hide (clCount_n 10 s w hs hf hT)
  obtain ⟨p, c, rfl, _⟩ := hv
  clear hs hT hf
  go_enter Tryz.func42, Tryz.ntmps42
  go_wp2_with fail
  refine HN.out.mono ?_
  rintro e w1 ⟨rfl, b1⟩
  go_wp2_with fail
  go_ret
  exact ⟨rfl, b1⟩
set_option maxHeartbeats 8000000 in
theorem clV_11y (v : Value) (ax : List (ByteArray × ByteArray)) (w : World) (hv : AttrsV w v ax) (_hz : AxOK ax) (s : ByteArray) (hf : (numK 11 s.data.toList).isSome = true) (hs : s.size ≤ 100000) (hT : ClTabs w) :
    Calls Tryz.prog 42 #[.int .i64 11, v, .string s] w fun e w' => e = .returned (.string s) ∧ Below w.heap.size w w' := by
  have HN := hide (clCount_y 11 s w hs hf hT)
  obtain ⟨p, c, rfl, _⟩ := hv
  clear hs hT hf
  go_enter Tryz.func42, Tryz.ntmps42
  go_wp2_with fail
  refine HN.out.mono ?_
  rintro e w1 ⟨rfl, b1⟩
  go_wp2_with fail
  go_ret
  exact ⟨rfl, b1⟩
set_option maxHeartbeats 8000000 in
theorem clV_11n (v : Value) (ax : List (ByteArray × ByteArray)) (w : World) (hv : AttrsV w v ax) (_hz : AxOK ax) (s : ByteArray) (hf : (numK 11 s.data.toList).isSome = false) (hs : s.size ≤ 100000) (hT : ClTabs w) :
    Calls Tryz.prog 42 #[.int .i64 11, v, .string s] w fun e w' => e = .returned (.string ⟨#[]⟩) ∧ Below w.heap.size w w' := by
  have HN := hide (clCount_n 11 s w hs hf hT)
  obtain ⟨p, c, rfl, _⟩ := hv
  clear hs hT hf
  go_enter Tryz.func42, Tryz.ntmps42
  go_wp2_with fail
  refine HN.out.mono ?_
  rintro e w1 ⟨rfl, b1⟩
  go_wp2_with fail
  go_ret
  exact ⟨rfl, b1⟩
set_option maxHeartbeats 8000000 in
theorem clV_13y (v : Value) (ax : List (ByteArray × ByteArray)) (w : World) (hv : AttrsV w v ax) (_hz : AxOK ax) (s : ByteArray) (hf : (numK 13 s.data.toList).isSome = true) (hs : s.size ≤ 100000) (hT : ClTabs w) :
    Calls Tryz.prog 42 #[.int .i64 13, v, .string s] w fun e w' => e = .returned (.string s) ∧ Below w.heap.size w w' := by
  have HN := hide (clCount_y 13 s w hs hf hT)
  obtain ⟨p, c, rfl, _⟩ := hv
  clear hs hT hf
  go_enter Tryz.func42, Tryz.ntmps42
  go_wp2_with fail
  refine HN.out.mono ?_
  rintro e w1 ⟨rfl, b1⟩
  go_wp2_with fail
  go_ret
  exact ⟨rfl, b1⟩
set_option maxHeartbeats 8000000 in
theorem clV_13n (v : Value) (ax : List (ByteArray × ByteArray)) (w : World) (hv : AttrsV w v ax) (_hz : AxOK ax) (s : ByteArray) (hf : (numK 13 s.data.toList).isSome = false) (hs : s.size ≤ 100000) (hT : ClTabs w) :
    Calls Tryz.prog 42 #[.int .i64 13, v, .string s] w fun e w' => e = .returned (.string ⟨#[]⟩) ∧ Below w.heap.size w w' := by
  have HN := hide (clCount_n 13 s w hs hf hT)
  obtain ⟨p, c, rfl, _⟩ := hv
  clear hs hT hf
  go_enter Tryz.func42, Tryz.ntmps42
  go_wp2_with fail
  refine HN.out.mono ?_
  rintro e w1 ⟨rfl, b1⟩
  go_wp2_with fail
  go_ret
  exact ⟨rfl, b1⟩
set_option maxHeartbeats 8000000 in
theorem clV_12n (v : Value) (ax : List (ByteArray × ByteArray)) (w : World) (hv : AttrsV w v ax) (_hz : AxOK ax) (s : ByteArray) (hf : numK 12 s.data.toList = none) (hs : s.size ≤ 100000) (hT : ClTabs w) :
    Calls Tryz.prog 42 #[.int .i64 12, v, .string s] w fun e w' => e = .returned (.string ⟨#[]⟩) ∧ Below w.heap.size w w' := by
  have HN := hide (clLocal_n s w hs hf hT)
  obtain ⟨p, c, rfl, _⟩ := hv
  clear hs hT hf
  go_enter Tryz.func42, Tryz.ntmps42
  go_wp2_with fail
  refine HN.out.mono ?_
  rintro e w1 ⟨rfl, b1⟩
  go_wp2_with fail
  go_ret
  exact ⟨rfl, b1⟩
set_option maxHeartbeats 8000000 in
theorem clV_12y (v : Value) (ax : List (ByteArray × ByteArray)) (w : World) (hv : AttrsV w v ax) (_hz : AxOK ax) (s : ByteArray) (n : Int) (t : List UInt8) (hf : numK 12 s.data.toList = some n) (ho : ShK 12 n (some t)) (hs : s.size ≤ 100000) (hT : ClTabs w) :
    Calls Tryz.prog 42 #[.int .i64 12, v, .string s] w fun e w' => e = .returned (.string (txt t)) ∧ Below w.heap.size w w' := by
  have HN := hide (clLocal_y s w hs n t hf ho hT)
  obtain ⟨p, c, rfl, _⟩ := hv
  clear hs hT hf ho
  go_enter Tryz.func42, Tryz.ntmps42
  go_wp2_with fail
  refine HN.out.mono ?_
  rintro e w1 ⟨rfl, b1⟩
  go_wp2_with fail
  go_ret
  exact ⟨rfl, b1⟩
set_option maxHeartbeats 8000000 in
theorem clV_14 (v : Value) (ax : List (ByteArray × ByteArray)) (w : World) (hv : AttrsV w v ax) (hz : AxOK ax) (s : ByteArray)  (hs : s.size ≤ 100000) (hT : ClTabs w) :
    Calls Tryz.prog 42 #[.int .i64 14, v, .string s] w fun e w' => e = .returned (.string (txt (rangeT ax s.data.toList))) ∧ Below w.heap.size w w' := by
  have HN := hide (clRange_any v ax w hv hz s hs hT)
  generalize txt (rangeT ax s.data.toList) = rt at *
  obtain ⟨p, c, rfl, _⟩ := hv
  clear hz hs hT
  go_enter Tryz.func42, Tryz.ntmps42
  go_wp2_with fail
  refine HN.out.mono ?_
  rintro e w1 ⟨rfl, b1⟩
  go_wp2_with fail
  go_ret
  exact ⟨rfl, b1⟩
set_option maxHeartbeats 8000000 in
theorem clV_15 (v : Value) (ax : List (ByteArray × ByteArray)) (w : World) (hv : AttrsV w v ax) (_hz : AxOK ax) (s : ByteArray)  (hs : s.size ≤ 100000) (_hT : ClTabs w) :
    Calls Tryz.prog 42 #[.int .i64 15, v, .string s] w fun e w' => e = .returned (.string (txt (cleanL s.data.toList))) ∧ Below w.heap.size w w' := by
  have HN := hide (colClean_any s w (by unfold maxLen; omega) trivial)
  obtain ⟨p, c, rfl, _⟩ := hv
  clear hs
  go_enter Tryz.func42, Tryz.ntmps42
  go_wp2_with fail
  refine HN.out.mono ?_
  rintro e w1 ⟨rfl, b1⟩
  go_wp2_with fail
  go_ret
  exact ⟨rfl, b1⟩
set_option maxHeartbeats 8000000 in
theorem clV_else (v : Value) (ax : List (ByteArray × ByteArray)) (w : World) (hv : AttrsV w v ax) (_hz : AxOK ax) (s : ByteArray) (k : Int) (hk : k < 2 ∨ 15 < k) (hs : s.size ≤ 100000) (_hT : ClTabs w) :
    Calls Tryz.prog 42 #[.int .i64 k, v, .string s] w fun e w' => e = .returned (.string s) ∧ Below w.heap.size w w' := by
  have HN := hide (clone_any s w (by omega))
  have k2 : (k == 2) = false := by rw [beq_eq_false_iff_ne]; omega
  have m2 : ¬ k = 2 := by omega
  have k3 : (k == 3) = false := by rw [beq_eq_false_iff_ne]; omega
  have m3 : ¬ k = 3 := by omega
  have k4 : (k == 4) = false := by rw [beq_eq_false_iff_ne]; omega
  have m4 : ¬ k = 4 := by omega
  have k5 : (k == 5) = false := by rw [beq_eq_false_iff_ne]; omega
  have m5 : ¬ k = 5 := by omega
  have k6 : (k == 6) = false := by rw [beq_eq_false_iff_ne]; omega
  have m6 : ¬ k = 6 := by omega
  have k7 : (k == 7) = false := by rw [beq_eq_false_iff_ne]; omega
  have m7 : ¬ k = 7 := by omega
  have k8 : (k == 8) = false := by rw [beq_eq_false_iff_ne]; omega
  have m8 : ¬ k = 8 := by omega
  have k9 : (k == 9) = false := by rw [beq_eq_false_iff_ne]; omega
  have m9 : ¬ k = 9 := by omega
  have k10 : (k == 10) = false := by rw [beq_eq_false_iff_ne]; omega
  have m10 : ¬ k = 10 := by omega
  have k11 : (k == 11) = false := by rw [beq_eq_false_iff_ne]; omega
  have m11 : ¬ k = 11 := by omega
  have k12 : (k == 12) = false := by rw [beq_eq_false_iff_ne]; omega
  have m12 : ¬ k = 12 := by omega
  have k13 : (k == 13) = false := by rw [beq_eq_false_iff_ne]; omega
  have m13 : ¬ k = 13 := by omega
  have k14 : (k == 14) = false := by rw [beq_eq_false_iff_ne]; omega
  have m14 : ¬ k = 14 := by omega
  have k15 : (k == 15) = false := by rw [beq_eq_false_iff_ne]; omega
  have m15 : ¬ k = 15 := by omega
  clear hk
  obtain ⟨p, c, rfl, _⟩ := hv
  clear hs
  go_enter Tryz.func42, Tryz.ntmps42
  go_wp2_with fail
  refine HN.out.mono ?_
  rintro e w1 ⟨rfl, b1⟩
  go_wp2_with fail
  go_ret
  exact ⟨rfl, b1⟩
theorem clValue_any {k : Int} (v : Value) (ax : List (ByteArray × ByteArray)) (w : World) (hv : AttrsV w v ax) (hz : AxOK ax) {s : ByteArray} {t : List UInt8} (h : CleanIs k ax s.data.toList t) (hs : s.size ≤ 100000) (hT : ClTabs w) :
    Calls Tryz.prog 42 #[.int .i64 k, v, .string s] w fun e w' => e = .returned (.string (txt t)) ∧ Below w.heap.size w w' := by
  rcases h with ⟨h, rfl⟩ | ⟨rfl, rfl⟩ | ⟨rfl, q, rfl⟩ | ⟨rfl, q, rfl⟩ | ⟨h, q, rfl⟩ | ⟨h, q, rfl⟩ | ⟨rfl, q, rfl⟩ | ⟨rfl, n, q, ht⟩ | ⟨rfl, rfl⟩ | ⟨rfl, rfl⟩ | ⟨h, rfl⟩
  · rcases h with rfl | rfl | rfl | rfl
    · exact clV_2 v ax w hv hz s hs hT
    · exact clV_3 v ax w hv hz s hs hT
    · exact clV_4 v ax w hv hz s hs hT
    · exact clV_7 v ax w hv hz s hs hT
  · exact clV_5 v ax w hv hz s hs hT
  · exact clV_6y v ax w hv hz s q hs hT
  · exact clV_6n v ax w hv hz s q hs hT
  · rcases h with rfl | rfl | rfl | rfl | rfl
    · exact clV_8y v ax w hv hz s q hs hT
    · exact clV_9y v ax w hv hz s q hs hT
    · exact clV_10y v ax w hv hz s q hs hT
    · exact clV_11y v ax w hv hz s q hs hT
    · exact clV_13y v ax w hv hz s q hs hT
  · rcases h with rfl | rfl | rfl | rfl | rfl
    · exact clV_8n v ax w hv hz s q hs hT
    · exact clV_9n v ax w hv hz s q hs hT
    · exact clV_10n v ax w hv hz s q hs hT
    · exact clV_11n v ax w hv hz s q hs hT
    · exact clV_13n v ax w hv hz s q hs hT
  · exact clV_12n v ax w hv hz s q hs hT
  · exact clV_12y v ax w hv hz s n t q ht hs hT
  · exact clV_14 v ax w hv hz s hs hT
  · exact clV_15 v ax w hv hz s hs hT
  · exact clV_else v ax w hv hz s k h hs hT
end Go.Proofs.YtfjfkkbgkjmghaaGreatDoor

namespace Go.Proofs.YtfjfkkbgkjmghaaGreatDoor
open Go.RowKit
set_option maxRecDepth 100000
theorem ret_txC {a b : ByteArray} (h : a = b) : Ending.returned (.string a) = .returned (.string b) := by rw [h]
theorem lit_decC (a : ByteArray) (l : List UInt8) : (a.toList == l) = decide (a = ⟨l.toArray⟩) := by
  rw [Bool.eq_iff_iff, beq_iff_eq, decide_eq_true_eq, ByteArray.toList_eq]
  constructor
  · intro e
    apply ByteArray.ext
    exact Array.ext' e
  · intro e; rw [e]
abbrev CtTabs (w : World) : Prop := ClTabs w
theorem CtTabs.below {w w' : World} (h : CtTabs w) (hb : Below w.heap.size w w') : CtTabs w' := ClTabs.below h hb
theorem ctClean_any {k : Int} (v : Value) (ax : List (ByteArray × ByteArray)) (w : World) (hv : AttrsV w v ax) (hz : AxOK ax) {s t : ByteArray} (h : ClnIs k ax s t) (hk : ¬ k = 24) (hs : s.size ≤ 100000) (hT : CtTabs w) :
    Calls Tryz.prog 42 #[.int .i64 k, v, .string s] w fun e w' => e = .returned (.string t) ∧ Below w.heap.size w w' := by
  rcases h with ⟨q, _⟩ | ⟨_, h⟩
  · exact absurd q hk
  · exact clValue_any v ax w hv hz h hs hT
/-- The text that a control begins with. -/
def svP (k : Int) (text t : ByteArray) : ByteArray := if k = 28 then text else if modeV k = 1 then t else ⟨#[]⟩
set_option maxHeartbeats 8000000 in
theorem ctFile_any (fv : Value) (fs : List En) (w : World) (hf : FilesV w fv fs) (hF : FsOK fs) :
    Calls Tryz.prog 35 #[fv] w fun e w' => e = .returned (.string (fileT fs)) ∧ Below w.heap.size w w' := by
  obtain ⟨fp, fc, rfl, hk⟩ := hf
  cases fs with
  | nil =>
    have E := hide (show fileT [] = ⟨#[]⟩ from rfl)
    clear hk hF
    go_enter Tryz.func35, Tryz.ntmps35
    go_wp2_with fail
    go_ret
    exact ⟨ret_txC E.out.symm, Below.refl _ _⟩
  | cons en r =>
    have E := hide (show fileT (en :: r) = ⟨#[67, 58, 92, 102, 97, 107, 101, 112, 97, 116, 104, 92]⟩ ++ en.fname from rfl)
    obtain ⟨b, o, rfl, hc⟩ : ∃ b o, fp = some ⟨b, o, none⟩ ∧ ∀ i (h : i < (en :: r).length), EnAt w b (o + i * 5) (en :: r)[i] := by
      rcases hk with q | q
      · cases q
      · exact q
    have x3 : w.cell? ⟨b, o + 3, none⟩ = some (.string en.fname) := by have := (hc 0 (by simp)).c3; simpa using this
    have fb := hF.name en List.mem_cons_self
    have HC := hide (fun W => clone_any (⟨#[67, 58, 92, 102, 97, 107, 101, 112, 97, 116, 104, 92]⟩ ++ en.fname) W (by rw [ByteArray.size_append]; show 12 + _ ≤ _; omega))
    have nb : ¬ 9223372036854775807 < 12 + en.fname.size := by omega
    have hl : 0 < (en :: r).length := by simp
    have i1 : (0 : Int) < ((en :: r).length : Int) := by omega
    have i2 : (((en :: r).length : Int) == 0) = false := by rw [beq_eq_false_iff_ne]; omega
    have i3 : ¬ ((en :: r).length : Int) = 0 := by omega
    have i4 : ¬ (en :: r).length = 0 := by omega
    generalize fileT (en :: r) = R at *
    clear hk hF hc
    generalize en.fname = fnm at *
    generalize (en :: r).length = fl at *
    go_enter Tryz.func35, Tryz.ntmps35
    go_wp2_with fail
    refine (HC.out _).mono ?_
    rintro e w1 ⟨rfl, b1⟩
    go_wp2_with fail
    go_ret
    exact ⟨ret_txC E.out.symm, b1⟩
set_option maxHeartbeats 8000000 in
theorem ctStartV_any (k : Int) (v : Value) (ax : List (ByteArray × ByteArray)) (w : World) (hv : AttrsV w v ax) (hz : AxOK ax) (text t : ByteArray) (ht : ClnIs k ax (srcS k ax text) t) (hs : text.size ≤ 100000) (hT : CtTabs w) :
    Calls Tryz.prog 27 #[.int .i64 k, v, .string text] w fun e w' => e = .returned (.string (svP k text t)) ∧ Below w.heap.size w w' := by
  by_cases h24 : k = 24
  · subst h24
    have et : t = linesS text := by
      rcases ht with ⟨_, q⟩ | ⟨q, _⟩
      · rw [q]; rfl
      · exact absurd rfl q
    have E : Hid (svP 24 text t = linesS text) := by show _ = _; rw [show svP 24 text t = t from rfl, et]
    have HL := hide (lines_any text w (by omega))
    obtain ⟨p, c, rfl, _⟩ := hv
    generalize svP 24 text t = R at *
    generalize linesS text = l at *
    clear hz hs hT ht et
    go_enter Tryz.func27, Tryz.ntmps27
    go_wp2_with fail
    refine HL.out.mono ?_
    rintro e w1 ⟨rfl, b1⟩
    go_wp2_with fail
    go_ret
    exact ⟨ret_txC E.out.symm, b1⟩
  · have b24 : (k == 24) = false := beq_eq_false_iff_ne.2 h24
    by_cases h28 : k = 28
    · subst h28
      have E := hide (show svP 28 text t = text from rfl)
      have HL := hide (clone_any text w (by omega))
      obtain ⟨p, c, rfl, _⟩ := hv
      generalize svP 28 text t = R at *
      clear hz hs hT ht
      go_enter Tryz.func27, Tryz.ntmps27
      go_wp2_with fail
      refine HL.out.mono ?_
      rintro e w1 ⟨rfl, b1⟩
      go_wp2_with fail
      go_ret
      exact ⟨ret_txC E.out.symm, b1⟩
    · have b28 : (k == 28) = false := beq_eq_false_iff_ne.2 h28
      have HS := hide (ctStartsBy_any k)
      by_cases m : modeV k = 1
      · have E := hide (show svP k text t = t by unfold svP; rw [if_neg h28, if_pos m])
        rw [show sbB k = true from decide_eq_true ⟨m, h24, h28⟩] at HS
        have es : srcS k ax text = fndS ax valS := if_neg h24
        rw [es] at ht
        have HFi := hide (ctFind_any v ax valS w hv hz.len)
        have HC := hide (fun W (hb : Below w.heap.size w W) => ctClean_any v ax W (hv.below hb) hz ht h24 (fnd_small hz _) (hT.below hb))
        rw [show valS = ⟨#[118, 97, 108, 117, 101]⟩ from rfl] at HFi HC
        generalize fndS ax ⟨#[118, 97, 108, 117, 101]⟩ = fs at *
        generalize (findA ax ⟨#[118, 97, 108, 117, 101]⟩).isSome = fb at *
        obtain ⟨p, c, rfl, _⟩ := hv
        generalize svP k text t = R at *
        clear hz hs hT ht es m
        go_enter Tryz.func27, Tryz.ntmps27
        go_wp2_with fail
        refine (HS.out _).mono ?_
        rintro e u ⟨rfl, rfl⟩
        go_wp2_with fail
        refine HFi.out.mono ?_
        rintro e w1 ⟨rfl, b1⟩
        go_wp2_with fail
        refine (HC.out _ b1).mono ?_
        rintro e w2 ⟨rfl, b2⟩
        go_wp2_with fail
        go_ret
        exact ⟨ret_txC E.out.symm, chain b1 b2⟩
      · have E := hide (show svP k text t = ⟨#[]⟩ by unfold svP; rw [if_neg h28, if_neg m])
        rw [show sbB k = false from decide_eq_false (fun q => m q.1)] at HS
        obtain ⟨p, c, rfl, _⟩ := hv
        generalize svP k text t = R at *
        clear hz hs hT ht m
        go_enter Tryz.func27, Tryz.ntmps27
        go_wp2_with fail
        refine (HS.out _).mono ?_
        rintro e u ⟨rfl, rfl⟩
        go_wp2_with fail
        go_ret
        exact ⟨ret_txC E.out.symm, Below.refl _ _⟩

end Go.Proofs.YtfjfkkbgkjmghaaGreatDoor
