/- The walks of stage 5's laws: each returns true, and what lay in the world lies there still. Condition: the tables that the program's road names. -/
import Derived.Test.YtekcbkicfoaheaaGreatDoorMomProg
import Derived.Test.YtekcbkicfoaheaaGreatDoorMomR5
import Derived.Test.YtekcbkicfoaheaaGreatDoorMomSh3
namespace Go.Proofs.YtekcbkicfoaheaaGreatDoor
open Go.RowKit

theorem below_drew (w : World) (q : Nat) : Below w.heap.size w (w.drewN q) := ⟨rfl, rfl, rfl, Nat.le_refl _, fun _ _ => rfl⟩
theorem wake_A : clockL 3661500 = [48, 49, 58, 48, 49, 58, 48, 49, 46, 53] := by decide +kernel
theorem wake_B : momV 1 (⟨#[49, 57, 55, 48, 45, 48, 49, 45, 48, 50]⟩ : ByteArray).data.toList = (86400000, 0) := by decide +kernel
theorem wake_C : ShowIs 4 3661500 [48, 49, 58, 48, 49, 58, 48, 49, 46, 53] := .inr (.inr (.inr (.inl ⟨rfl, 3661500, by decide, by decide, wake_A.symm⟩)))

set_option maxHeartbeats 2000000 in
theorem momWakes_any (w : World) (hT : Tabs w) :
    Calls Tryz.prog 8 #[] w fun e w' => e = .returned (.bool true) ∧ Below w.heap.size w w' := by
  have hA := momShow_yes wake_C w (by decide) (by decide) hT
  have hB := fun w hT => momParse_any 1 ⟨#[49, 57, 55, 48, 45, 48, 49, 45, 48, 50]⟩ w (by decide) hT
  rw [wake_B] at hB
  simp only at hB
  have hA : Calls Tryz.prog 11 #[.int .i64 4, .int .i64 3661500] w fun e w' => e = .returned (.tuple #[.string ⟨#[48, 49, 58, 48, 49, 58, 48, 49, 46, 53]⟩, .int .i64 0]) ∧ Below w.heap.size w w' := hA
  have HA := hide hA
  have HB := hide hB
  have HT := hide hT
  clear hA hB hT
  go_enter Tryz.func8, Tryz.ntmps8
  go_wp2_with fail
  refine (HA.out).mono ?_
  rintro e v1 ⟨rfl, b1⟩
  go_wp2_with fail
  refine (HB.out _ (HT.out.below b1)).mono ?_
  rintro e v2 ⟨rfl, b2⟩
  go_wp2_with fail
  go_ret
  exact ⟨rfl, (chain b1 b2)⟩

set_option maxHeartbeats 2000000 in
theorem parses_walk (a0 : Int) (a1 : ByteArray) (w : World) (hT : Tabs w) :
    Calls Tryz.prog 3 #[.int .i64 a0, .string a1] w fun e w' => e = .returned (.bool true) ∧ Below w.heap.size w w' := by
  have HT := hide hT
  clear hT
  by_cases ha : (16384 : Int) < (a1.size : Int)
  · go_enter Tryz.func3, Tryz.ntmps3
    go_wp2_with fail
    refine (momWakes_any _ HT.out).mono ?_
    rintro e v1 ⟨rfl, b1⟩
    go_wp2_with fail
    go_ret
    exact ⟨rfl, b1⟩
  · have hP := fun w hT => momParse_any a0 a1 w (by omega) hT
    have hR := fun w => refMom_any a0 a1 w (by omega)
    generalize momV a0 a1.data.toList = r at *
    obtain ⟨n, m⟩ := r
    simp only at hP hR
    have HP := hide hP
    have HR := hide hR
    clear hP hR
    go_enter Tryz.func3, Tryz.ntmps3
    go_wp2_with fail
    refine (momWakes_any _ HT.out).mono ?_
    rintro e v1 ⟨rfl, b1⟩
    go_wp2_with fail
    refine (HP.out _ (HT.out.below b1)).mono ?_
    rintro e v2 ⟨rfl, b2⟩
    go_wp2_with fail
    refine (HR.out _).mono ?_
    rintro e v3 ⟨rfl, q3, rfl⟩
    go_wp2_with fail
    go_ret
    exact ⟨rfl, chain b1 (chain b2 (below_drew _ _))⟩

set_option maxHeartbeats 2000000 in
theorem shows_walk (a0 n : Int) (n1 : -9223372036854775808 ≤ n) (n2 : n ≤ 9223372036854775807) (w : World) (hT : Tabs w) :
    Calls Tryz.prog 4 #[.int .i64 a0, .int .i64 n] w fun e w' => e = .returned (.bool true) ∧ Below w.heap.size w w' := by
  have HT := hide hT
  have hC : ∃ (t : ByteArray) (e : Int), (∀ w, Tabs w → Calls Tryz.prog 11 #[.int .i64 a0, .int .i64 n] w fun x w' => x = .returned (.tuple #[.string t, .int .i64 e]) ∧ Below w.heap.size w w') ∧ (∀ w, Calls Tryz.prog 12 #[.int .i64 a0, .int .i64 n] w fun x w' => x = .returned (.tuple #[.string t, .int .i64 e]) ∧ Below w.heap.size w w') := by
    by_cases h : 1 ≤ a0 ∧ a0 ≤ 5
    · rcases show_cases n h.1 h.2 with ⟨t, ht⟩ | hn
      · exact ⟨_, _, fun w hT => momShow_yes ht w n1 n2 hT, fun w => refShow_yes ht w n1 n2⟩
      · exact ⟨_, _, fun w hT => momShow_no hn w n1 n2 hT, fun w => refShow_no hn w n1 n2⟩
    · exact ⟨_, _, fun w hT => momShow_kind a0 n w (by omega) hT, fun w => refShow_kind a0 n w (by omega)⟩
  obtain ⟨t, e, hP, hR⟩ := hC
  have HP := hide hP
  have HR := hide hR
  clear hP hR hT
  go_enter Tryz.func4, Tryz.ntmps4
  go_wp2_with fail
  refine (HP.out _ HT.out).mono ?_
  rintro e v1 ⟨rfl, b1⟩
  go_wp2_with fail
  refine (HR.out _).mono ?_
  rintro e v2 ⟨rfl, b2⟩
  go_wp2_with fail
  refine (momWakes_any _ (HT.out.below (chain b1 b2))).mono ?_
  rintro e v3 ⟨rfl, b3⟩
  go_wp2_with fail
  go_ret
  exact ⟨rfl, (chain b1 (chain b2 b3))⟩

theorem show_bounds {kind n : Int} {t : List UInt8} (h : ShowIs kind n t) : 1 ≤ kind ∧ kind ≤ 5 ∧ -9223372036854775808 ≤ n ∧ n ≤ 9223372036854775807 := by
  rcases h with ⟨rfl, k, y, m, d, hd, rfl, rfl⟩ | ⟨rfl, y, m, y1, y2, m1, m2, rfl, rfl⟩ | ⟨rfl, y, k, y1, y2, k1, k2, rfl, rfl⟩ | ⟨rfl, k, hk, rfl, rfl⟩ | ⟨rfl, k, y, m, d, r, hd, hr, rfl, rfl⟩
  · have := hd.bounds; omega
  · omega
  · have := first_range (y := y) (by omega) (by omega)
    have := (weeks_is y).2
    omega
  · omega
  · have := hd.bounds; omega
theorem show_small {kind n : Int} {t : List UInt8} (h : ShowIs kind n t) : (txt t).size ≤ 60 := by
  rcases h with ⟨rfl, k, y, m, d, hd, rfl, rfl⟩ | ⟨rfl, y, m, y1, y2, m1, m2, rfl, rfl⟩ | ⟨rfl, y, k, y1, y2, k1, k2, rfl, rfl⟩ | ⟨rfl, k, hk, rfl, rfl⟩ | ⟨rfl, k, y, m, d, r, hd, hr, rfl, rfl⟩
  · have := dateL_size hd; omega
  · have a := pad_most (n := y) (w := 4) (k := 9) (by omega) (by decide) (by decide)
    have b := pad_most (n := m) (w := 2) (k := 2) (by omega) (by decide) (by decide)
    rw [txt_size]; unfold monthL
    simp only [List.length_append, List.length_cons]; omega
  · have := (weeks_is y).2
    have a := pad_most (n := y) (w := 4) (k := 9) (by omega) (by decide) (by decide)
    have b := pad_most (n := k) (w := 2) (k := 2) (by omega) (by decide) (by decide)
    rw [txt_size]; unfold weekL
    simp only [List.length_append, List.length_cons]; omega
  · have := clockL_size hk; omega
  · have a := dateL_size hd
    have b := clockL_size hr
    rw [txt_size] at a b ⊢
    simp only [List.length_append, List.length_cons]; omega
theorem mom_shown {kind n : Int} {t : List UInt8} (h : ShowIs kind n t) : momV kind (txt t).data.toList = (n, 0) := by
  have b := show_bounds h
  rw [txt_data]
  unfold momV
  rw [if_pos ⟨b.1, b.2.1⟩, mom_back h]; rfl

set_option maxHeartbeats 2000000 in
theorem back_walk (a0 n : Int) (n1 : -9223372036854775808 ≤ n) (n2 : n ≤ 9223372036854775807) (w : World) (hT : Tabs w) :
    Calls Tryz.prog 5 #[.int .i64 a0, .int .i64 n] w fun e w' => e = .returned (.bool true) ∧ Below w.heap.size w w' := by
  have HT := hide hT
  clear hT
  by_cases h : 1 ≤ a0 ∧ a0 ≤ 5
  · rcases show_cases n h.1 h.2 with ⟨t, ht⟩ | hn
    · have hS := fun w hT => momShow_yes ht w n1 n2 hT
      have hz := show_small ht
      have hP := fun w hT => momParse_any a0 (txt t) w (by omega) hT
      rw [mom_shown ht] at hP
      simp only at hP
      generalize txt t = x at *
      have HS := hide hS
      have HP := hide hP
      clear hS hP ht h
      go_enter Tryz.func5, Tryz.ntmps5
      go_wp2_with fail
      refine (HS.out _ HT.out).mono ?_
      rintro e v1 ⟨rfl, b1⟩
      go_wp2_with fail
      refine (momWakes_any _ (HT.out.below b1)).mono ?_
      rintro e v2 ⟨rfl, b2⟩
      go_wp2_with fail
      refine (HP.out _ (HT.out.below (chain b1 b2))).mono ?_
      rintro e v3 ⟨rfl, b3⟩
      go_wp2_with fail
      go_ret
      exact ⟨rfl, (chain b1 (chain b2 b3))⟩
    · have HS := hide (fun w hT => momShow_no hn w n1 n2 hT)
      clear hn h
      go_enter Tryz.func5, Tryz.ntmps5
      go_wp2_with fail
      refine (HS.out _ HT.out).mono ?_
      rintro e v1 ⟨rfl, b1⟩
      go_wp2_with fail
      refine (momWakes_any _ (HT.out.below b1)).mono ?_
      rintro e v2 ⟨rfl, b2⟩
      go_wp2_with fail
      go_ret
      exact ⟨rfl, (chain b1 b2)⟩
  · have HS := hide (fun w hT => momShow_kind a0 n w (by omega) hT)
    clear h
    go_enter Tryz.func5, Tryz.ntmps5
    go_wp2_with fail
    refine (HS.out _ HT.out).mono ?_
    rintro e v1 ⟨rfl, b1⟩
    go_wp2_with fail
    refine (momWakes_any _ (HT.out.below b1)).mono ?_
    rintro e v2 ⟨rfl, b2⟩
    go_wp2_with fail
    go_ret
    exact ⟨rfl, (chain b1 b2)⟩

theorem mom_cases (kind : Int) (l : List UInt8) : momV kind l = (0, 3) ∨ momV kind l = (0, 1) ∨ ∃ n t, momV kind l = (n, 0) ∧ ShowIs kind n t := by
  unfold momV
  by_cases h : 1 ≤ kind ∧ kind ≤ 5
  · rw [if_pos h]
    cases ho : momT kind l with
    | none => exact .inr (.inl rfl)
    | some n =>
      obtain ⟨t, ht⟩ := mom_normal h.1 h.2 ho
      exact .inr (.inr ⟨n, t, rfl, ht⟩)
  · rw [if_neg h]; exact .inl rfl

set_option maxHeartbeats 2000000 in
theorem normal_walk (a0 : Int) (a1 : ByteArray) (w : World) (hT : Tabs w) :
    Calls Tryz.prog 6 #[.int .i64 a0, .string a1] w fun e w' => e = .returned (.bool true) ∧ Below w.heap.size w w' := by
  have HT := hide hT
  clear hT
  by_cases ha : (16384 : Int) < (a1.size : Int)
  · go_enter Tryz.func6, Tryz.ntmps6
    go_wp2_with fail
    refine (momWakes_any _ HT.out).mono ?_
    rintro e v1 ⟨rfl, b1⟩
    go_wp2_with fail
    go_ret
    exact ⟨rfl, b1⟩
  · have hP := fun w hT => momParse_any a0 a1 w (by omega) hT
    rcases mom_cases a0 a1.data.toList with e | e | ⟨n, t, e, ht⟩
    · rw [e] at hP
      simp only at hP
      have HP := hide hP
      clear hP e
      go_enter Tryz.func6, Tryz.ntmps6
      go_wp2_with fail
      refine (momWakes_any _ HT.out).mono ?_
      rintro e v1 ⟨rfl, b1⟩
      go_wp2_with fail
      refine (HP.out _ (HT.out.below b1)).mono ?_
      rintro e v2 ⟨rfl, b2⟩
      go_wp2_with fail
      go_ret
      exact ⟨rfl, (chain b1 b2)⟩
    · rw [e] at hP
      simp only at hP
      have HP := hide hP
      clear hP e
      go_enter Tryz.func6, Tryz.ntmps6
      go_wp2_with fail
      refine (momWakes_any _ HT.out).mono ?_
      rintro e v1 ⟨rfl, b1⟩
      go_wp2_with fail
      refine (HP.out _ (HT.out.below b1)).mono ?_
      rintro e v2 ⟨rfl, b2⟩
      go_wp2_with fail
      go_ret
      exact ⟨rfl, (chain b1 b2)⟩
    · rw [e] at hP
      simp only at hP
      have bb := show_bounds ht
      have hS := fun w hT => momShow_yes ht w bb.2.2.1 bb.2.2.2 hT
      have hz := show_small ht
      have hQ := fun w hT => momParse_any a0 (txt t) w (by omega) hT
      rw [mom_shown ht] at hQ
      simp only at hQ
      generalize txt t = x at *
      have HP := hide hP
      have HS := hide hS
      have HQ := hide hQ
      clear hP hS hQ e ht
      go_enter Tryz.func6, Tryz.ntmps6
      go_wp2_with fail
      refine (momWakes_any _ HT.out).mono ?_
      rintro e v1 ⟨rfl, b1⟩
      go_wp2_with fail
      refine (HP.out _ (HT.out.below b1)).mono ?_
      rintro e v2 ⟨rfl, b2⟩
      go_wp2_with fail
      refine (HS.out _ (HT.out.below (chain b1 b2))).mono ?_
      rintro e v3 ⟨rfl, b3⟩
      go_wp2_with fail
      refine (HQ.out _ (HT.out.below (chain b1 (chain b2 b3)))).mono ?_
      rintro e v4 ⟨rfl, b4⟩
      go_wp2_with fail
      go_ret
      exact ⟨rfl, (chain b1 (chain b2 (chain b3 b4)))⟩

theorem join_list (a b : ByteArray) (c : UInt8) : (a ++ ⟨#[c]⟩ ++ b).data.toList = a.data.toList ++ c :: b.data.toList := by
  simp
theorem join_size (a b : ByteArray) (c : UInt8) : (a ++ ⟨#[c]⟩ ++ b).size = a.size + 1 + b.size := by
  rw [ByteArray.size_append, ByteArray.size_append]; rfl
theorem local_V {a b : ByteArray} {c : UInt8} (h : ∀ k (hk : k < a.size), isSep a[k] = false) (hc : isSep c = true) :
    momV 5 (a ++ ⟨#[c]⟩ ++ b).data.toList = outM ((dateT a.data.toList).bind fun d => (clockT b.data.toList).bind fun t => some (d * 86400000 + t)) := by
  have hp : ∀ x ∈ a.data.toList, isSep x = false := fun x hx => by
    obtain ⟨k, hk, e⟩ := List.getElem_of_mem hx
    have hk' : k < a.size := by simpa using hk
    have := h k hk'
    have e2 : a[k] = a.data.toList[k] := by simp; rfl
    rw [e2, e] at this; exact this
  rw [join_list]
  show outM (localT _) = _
  rw [local_is hp hc]

set_option maxHeartbeats 4000000 in
theorem local_walk (a0 a1 : ByteArray) (b : Bool) (hu : (a0.size : Int) + (a1.size : Int) ≤ 4611686018427387904) (w : World) (hT : Tabs w) :
    Calls Tryz.prog 7 #[.string a0, .string a1, .bool b] w fun e w' => e = .returned (.bool true) ∧ Below w.heap.size w w' := by
  have HT := hide hT
  clear hT
  by_cases ha : (16384 : Int) < (a0.size : Int) + (a1.size : Int)
  · go_enter Tryz.func7, Tryz.ntmps7
    go_wp2_with fail
    refine (momWakes_any _ HT.out).mono ?_
    rintro e v1 ⟨rfl, b1⟩
    go_wp2_with fail
    go_ret
    exact ⟨rfl, b1⟩
  have ha' : (a0.size : Int) + (a1.size : Int) ≤ 16384 := by omega
  have hA := fun w hT => momParse_any 1 a0 w (by omega) hT
  have hB := fun w hT => momParse_any 4 a1 w (by omega) hT
  have hC := fun c w hT => momParse_any 5 (a0 ++ ⟨#[c]⟩ ++ a1) w (by rw [join_size]; omega) hT
  have e1 : momV 1 a0.data.toList = outM ((dateT a0.data.toList).map (· * 86400000)) := rfl
  have e4 : momV 4 a1.data.toList = outM (clockT a1.data.toList) := rfl
  have e5 := fun c => local_V (a := a0) (b := a1) (c := c)
  have bd : ∀ d, dateT a0.data.toList = some d → -719162 ≤ d ∧ d ≤ 200000366 := fun d h => by
    obtain ⟨y, m, x, hd⟩ := date_of_text h
    exact hd.bounds
  have bt : ∀ t, clockT a1.data.toList = some t → 0 ≤ t ∧ t < 86400000 := fun t h => clock_some h
  rw [e1] at hA
  rw [e4] at hB
  have HA := hide hA
  have HB := hide hB
  have HC := hide hC
  have E5 := hide e5
  have BD := hide bd
  have BT := hide bt
  have z1 : (⟨#[84]⟩ : ByteArray).size = 1 := rfl
  have z2 : (⟨#[32]⟩ : ByteArray).size = 1 := rfl
  clear hA hB hC e1 e4 e5 bd bt ha
  go_enter Tryz.func7, Tryz.ntmps7
  go_wp2_with fail
  refine (momWakes_any _ HT.out).mono ?_
  rintro e v1 ⟨rfl, b1⟩
  go_wp2_with fail
  go_loop [25] (fun v => ∃ k : Nat, v = .int .i64 k ∧ k ≤ a0.size ∧ Hid (∀ j (hj : j < a0.size), j < k → isSep a0[j] = false)) (fun v => a0.size - (intOf v).toNat)
  case atStart => exact ⟨0, rfl, by omega, fun j _ h => by omega⟩
  case round =>
    obtain ⟨k, rfl, hk, hS⟩ := hrel
    by_cases hlt : k < a0.size
    · cases hc : isSep a0[k] with
      | true =>
        rcases sep_yes hc with x | ⟨x, y⟩
        · clear hc hS
          go_wp2_with fail
          go_ret
          exact ⟨rfl, b1⟩
        · clear hc hS
          go_wp2_with fail
          go_ret
          exact ⟨rfl, b1⟩
      | false =>
        have ⟨x, y⟩ := sep_no hc
        have hN : Hid (∀ j (hj : j < a0.size), j < k + 1 → isSep a0[j] = false) := fun j hj h => by
          rcases Nat.lt_or_ge j k with g | g
          · exact hS.out j hj g
          · obtain rfl : j = k := by omega
            exact hc
        clear hc hS
        go_wp2_with fail
        go_round
        case rel => exact ⟨k + 1, by go_num, by omega, hN⟩
        case measure => simp [intOf]; omega
    · obtain rfl : k = a0.size := by omega
      have hall : ∀ j (hj : j < a0.size), isSep a0[j] = false := fun j hj => hS.out j hj hj
      have eT := E5.out 84 hall (by decide)
      have eB := E5.out 32 hall (by decide)
      have hC84 := HC.out 84
      have hC32 := HC.out 32
      have hA := HA.out
      have hB := HB.out
      rw [eT] at hC84
      rw [eB] at hC32
      clear HA HB HC E5 eT eB hall hS hlt hk
      cases hd : dateT a0.data.toList with
      | none =>
        rw [hd] at hA hC84 hC32
        generalize clockT a1.data.toList = o at *
        clear BD BT hd
        cases o with
        | none =>
          have HA : Hid (∀ w, Tabs w → Calls Tryz.prog 9 #[.int .i64 1, .string a0] w fun e w' => e = .returned (.tuple #[.int .i64 0, .int .i64 1]) ∧ Below w.heap.size w w') := hA
          have HB : Hid (∀ w, Tabs w → Calls Tryz.prog 9 #[.int .i64 4, .string a1] w fun e w' => e = .returned (.tuple #[.int .i64 0, .int .i64 1]) ∧ Below w.heap.size w w') := hB
          cases b
          · have HC : Hid (∀ w, Tabs w → Calls Tryz.prog 9 #[.int .i64 5, .string (a0 ++ ⟨#[84]⟩ ++ a1)] w fun e w' => e = .returned (.tuple #[.int .i64 0, .int .i64 1]) ∧ Below w.heap.size w w') := hC84
            clear hA hB hC84 hC32
            go_wp2_with fail
            refine (HA.out _ (HT.out.below b1)).mono ?_
            rintro e v2 ⟨rfl, b2⟩
            go_wp2_with fail
            refine (HB.out _ (HT.out.below (chain b1 b2))).mono ?_
            rintro e v3 ⟨rfl, b3⟩
            go_wp2_with fail
            refine (HC.out _ (HT.out.below (chain b1 (chain b2 b3)))).mono ?_
            rintro e v4 ⟨rfl, b4⟩
            go_wp2_with fail
            go_ret
            exact ⟨rfl, (chain b1 (chain b2 (chain b3 b4)))⟩
          · have HC : Hid (∀ w, Tabs w → Calls Tryz.prog 9 #[.int .i64 5, .string (a0 ++ ⟨#[32]⟩ ++ a1)] w fun e w' => e = .returned (.tuple #[.int .i64 0, .int .i64 1]) ∧ Below w.heap.size w w') := hC32
            clear hA hB hC84 hC32
            go_wp2_with fail
            refine (HA.out _ (HT.out.below b1)).mono ?_
            rintro e v2 ⟨rfl, b2⟩
            go_wp2_with fail
            refine (HB.out _ (HT.out.below (chain b1 b2))).mono ?_
            rintro e v3 ⟨rfl, b3⟩
            go_wp2_with fail
            refine (HC.out _ (HT.out.below (chain b1 (chain b2 b3)))).mono ?_
            rintro e v4 ⟨rfl, b4⟩
            go_wp2_with fail
            go_ret
            exact ⟨rfl, (chain b1 (chain b2 (chain b3 b4)))⟩
        | some t =>
          have HA : Hid (∀ w, Tabs w → Calls Tryz.prog 9 #[.int .i64 1, .string a0] w fun e w' => e = .returned (.tuple #[.int .i64 0, .int .i64 1]) ∧ Below w.heap.size w w') := hA
          have HB : Hid (∀ w, Tabs w → Calls Tryz.prog 9 #[.int .i64 4, .string a1] w fun e w' => e = .returned (.tuple #[.int .i64 t, .int .i64 0]) ∧ Below w.heap.size w w') := hB
          cases b
          · have HC : Hid (∀ w, Tabs w → Calls Tryz.prog 9 #[.int .i64 5, .string (a0 ++ ⟨#[84]⟩ ++ a1)] w fun e w' => e = .returned (.tuple #[.int .i64 0, .int .i64 1]) ∧ Below w.heap.size w w') := hC84
            clear hA hB hC84 hC32
            go_wp2_with fail
            refine (HA.out _ (HT.out.below b1)).mono ?_
            rintro e v2 ⟨rfl, b2⟩
            go_wp2_with fail
            refine (HB.out _ (HT.out.below (chain b1 b2))).mono ?_
            rintro e v3 ⟨rfl, b3⟩
            go_wp2_with fail
            refine (HC.out _ (HT.out.below (chain b1 (chain b2 b3)))).mono ?_
            rintro e v4 ⟨rfl, b4⟩
            go_wp2_with fail
            go_ret
            exact ⟨rfl, (chain b1 (chain b2 (chain b3 b4)))⟩
          · have HC : Hid (∀ w, Tabs w → Calls Tryz.prog 9 #[.int .i64 5, .string (a0 ++ ⟨#[32]⟩ ++ a1)] w fun e w' => e = .returned (.tuple #[.int .i64 0, .int .i64 1]) ∧ Below w.heap.size w w') := hC32
            clear hA hB hC84 hC32
            go_wp2_with fail
            refine (HA.out _ (HT.out.below b1)).mono ?_
            rintro e v2 ⟨rfl, b2⟩
            go_wp2_with fail
            refine (HB.out _ (HT.out.below (chain b1 b2))).mono ?_
            rintro e v3 ⟨rfl, b3⟩
            go_wp2_with fail
            refine (HC.out _ (HT.out.below (chain b1 (chain b2 b3)))).mono ?_
            rintro e v4 ⟨rfl, b4⟩
            go_wp2_with fail
            go_ret
            exact ⟨rfl, (chain b1 (chain b2 (chain b3 b4)))⟩
      | some d =>
        have bd := BD.out d hd
        rw [hd] at hA hC84 hC32
        have HA : Hid (∀ w, Tabs w → Calls Tryz.prog 9 #[.int .i64 1, .string a0] w fun e w' => e = .returned (.tuple #[.int .i64 (d * 86400000), .int .i64 0]) ∧ Below w.heap.size w w') := hA
        cases ht : clockT a1.data.toList with
        | none =>
          rw [ht] at hB hC84 hC32
          have HB : Hid (∀ w, Tabs w → Calls Tryz.prog 9 #[.int .i64 4, .string a1] w fun e w' => e = .returned (.tuple #[.int .i64 0, .int .i64 1]) ∧ Below w.heap.size w w') := hB
          clear BD BT hd ht
          cases b
          · have HC : Hid (∀ w, Tabs w → Calls Tryz.prog 9 #[.int .i64 5, .string (a0 ++ ⟨#[84]⟩ ++ a1)] w fun e w' => e = .returned (.tuple #[.int .i64 0, .int .i64 1]) ∧ Below w.heap.size w w') := hC84
            clear hA hB hC84 hC32
            go_wp2_with fail
            refine (HA.out _ (HT.out.below b1)).mono ?_
            rintro e v2 ⟨rfl, b2⟩
            go_wp2_with fail
            refine (HB.out _ (HT.out.below (chain b1 b2))).mono ?_
            rintro e v3 ⟨rfl, b3⟩
            go_wp2_with fail
            refine (HC.out _ (HT.out.below (chain b1 (chain b2 b3)))).mono ?_
            rintro e v4 ⟨rfl, b4⟩
            go_wp2_with fail
            go_ret
            exact ⟨rfl, (chain b1 (chain b2 (chain b3 b4)))⟩
          · have HC : Hid (∀ w, Tabs w → Calls Tryz.prog 9 #[.int .i64 5, .string (a0 ++ ⟨#[32]⟩ ++ a1)] w fun e w' => e = .returned (.tuple #[.int .i64 0, .int .i64 1]) ∧ Below w.heap.size w w') := hC32
            clear hA hB hC84 hC32
            go_wp2_with fail
            refine (HA.out _ (HT.out.below b1)).mono ?_
            rintro e v2 ⟨rfl, b2⟩
            go_wp2_with fail
            refine (HB.out _ (HT.out.below (chain b1 b2))).mono ?_
            rintro e v3 ⟨rfl, b3⟩
            go_wp2_with fail
            refine (HC.out _ (HT.out.below (chain b1 (chain b2 b3)))).mono ?_
            rintro e v4 ⟨rfl, b4⟩
            go_wp2_with fail
            go_ret
            exact ⟨rfl, (chain b1 (chain b2 (chain b3 b4)))⟩
        | some t =>
          have bt := BT.out t ht
          rw [ht] at hB hC84 hC32
          have HB : Hid (∀ w, Tabs w → Calls Tryz.prog 9 #[.int .i64 4, .string a1] w fun e w' => e = .returned (.tuple #[.int .i64 t, .int .i64 0]) ∧ Below w.heap.size w w') := hB
          clear BD BT hd ht
          cases b
          · have HC : Hid (∀ w, Tabs w → Calls Tryz.prog 9 #[.int .i64 5, .string (a0 ++ ⟨#[84]⟩ ++ a1)] w fun e w' => e = .returned (.tuple #[.int .i64 (d * 86400000 + t), .int .i64 0]) ∧ Below w.heap.size w w') := hC84
            clear hA hB hC84 hC32
            go_wp2_with fail
            refine (HA.out _ (HT.out.below b1)).mono ?_
            rintro e v2 ⟨rfl, b2⟩
            go_wp2_with fail
            refine (HB.out _ (HT.out.below (chain b1 b2))).mono ?_
            rintro e v3 ⟨rfl, b3⟩
            go_wp2_with fail
            refine (HC.out _ (HT.out.below (chain b1 (chain b2 b3)))).mono ?_
            rintro e v4 ⟨rfl, b4⟩
            go_wp2_with fail
            go_ret
            exact ⟨rfl, (chain b1 (chain b2 (chain b3 b4)))⟩
          · have HC : Hid (∀ w, Tabs w → Calls Tryz.prog 9 #[.int .i64 5, .string (a0 ++ ⟨#[32]⟩ ++ a1)] w fun e w' => e = .returned (.tuple #[.int .i64 (d * 86400000 + t), .int .i64 0]) ∧ Below w.heap.size w w') := hC32
            clear hA hB hC84 hC32
            go_wp2_with fail
            refine (HA.out _ (HT.out.below b1)).mono ?_
            rintro e v2 ⟨rfl, b2⟩
            go_wp2_with fail
            refine (HB.out _ (HT.out.below (chain b1 b2))).mono ?_
            rintro e v3 ⟨rfl, b3⟩
            go_wp2_with fail
            refine (HC.out _ (HT.out.below (chain b1 (chain b2 b3)))).mono ?_
            rintro e v4 ⟨rfl, b4⟩
            go_wp2_with fail
            go_ret
            exact ⟨rfl, (chain b1 (chain b2 (chain b3 b4)))⟩

end Go.Proofs.YtekcbkicfoaheaaGreatDoor
