/- Joined texts. DayNumR: The number of a day, by the document: the call returns the number, or 0 and the error where there is no such day; the world is as it was. Condition: numbers of 64 bits. DayRef3: The document's Date and Week: the day and the week of a number, as a record, or the error where there is none; what lay in the world lies there still. Condition: numbers of 64 bits. Kit: Facts of no program: rows of bytes that a call makes by itself (append of a byte, of a text; what such a row reads as), the world behind a text that is turned into bytes. Conditions: the lengths that the laws of append ask. NumMod: What a division leaves, from 0 on; numbers that fit a base and a step, and the greatest that isn't above one: plain facts of no program. No condition. RefLeft: What a division leaves, by the document: the call answers by it; the world is as it was. Condition: numbers of 64 bits; a step above 0. Low: Small letters of texts, as lists of bytes: plain facts of no program. No condition. -/
import Derived.Test.YtpkpkpiphgjbaaaGreatDoorJcl1
import Derived.WalkKit
import Derived.ProofKit
import Derived.OpenShut
import Derived.ShutString
import Derived.Below
import Derived.Laws.BytesArg
import Derived.Lib.ConvBytes
import Derived.Lib.AppendStr
import Derived.WalkSpells
import Derived.WalkLawsBesides
import Derived.KernelRfl
import Derived.Test.YtpkpkpiphgjbaaaGreatDoorRows
namespace Go.Proofs.YtpkpkpiphgjbaaaGreatDoor
open Go.RowKit
set_option maxRecDepth 100000

theorem ret_num {a b c : Int} (h : a = b) : Ending.returned (.tuple #[.int .i64 a, .int .i64 c]) = .returned (.tuple #[.int .i64 b, .int .i64 c]) := by rw [h]

set_option maxHeartbeats 1000000 in
theorem refNumber_in (n y m d : Int) (w : World) (h : IsDay n y m d) :
    Calls Tryz.prog 136 #[.int .i64 y, .int .i64 m, .int .i64 d] w fun e w' => e = .returned (.tuple #[.int .i64 n, .int .i64 0]) ∧ w' = w := by
  obtain ⟨y1, y2, m1, m2, d1, d2, e⟩ := h
  have hL := fun w => refLen_any y m w (by omega) (by omega) (by omega) (by omega)
  rw [len_in (by omega)] at hL
  have hF := fun w => refNew_any y w y1 (by omega)
  have hS := fun (k : Int) (h1 : 1 ≤ k) (h2 : k ≤ 12) w => reflen_any y k w (by omega) (by omega)
  have hX := fun (k : Int) (h : 1 ≤ k) => aheadI_next (y := y) h
  have hB := fun (k : Int) (h : k ≤ 13) => aheadI_bounds (y := y) h
  have hM := len_bounds y m
  have hK := len_bounds y
  obtain ⟨n1, n2⟩ := new_range y1 (by omega)
  generalize newV y = N at *
  generalize lenV y m = L at *
  have E := hide e
  have HL := hide hL
  have HF := hide hF
  have HS := hide hS
  have HX := hide hX
  have HB := hide hB
  have HK := hide hK
  clear e hL hF hS hX hB hK
  go_enter Tryz.func136, Tryz.ntmps136
  go_wp2_with fail
  refine (HL.out _).mono ?_
  rintro e u1 ⟨rfl, rfl⟩
  go_wp2_with fail
  refine (HF.out _).mono ?_
  rintro e u1 ⟨rfl, rfl⟩
  go_wp2_with fail
  go_loop [8, 9] (fun s t => ∃ k A : Int, t = .int .i64 k ∧ s = .int .i64 A ∧ 1 ≤ k ∧ k ≤ m ∧ Hid (A = N + aheadI y k)) (fun _ t => (m - intOf t).toNat)
  case atStart => exact ⟨1, N, rfl, rfl, by omega, by omega, hide (by rw [aheadI_1]; omega)⟩
  case round =>
    obtain ⟨k, A, rfl, rfl, k1, k2, eA⟩ := hrel
    have hb := HB.out k (by omega)
    have a1 : -719162 ≤ A := by have := eA.out; omega
    have a2 : A ≤ 200000366 := by have := eA.out; omega
    clear hb
    by_cases hk : k < m
    · have hs := HS.out k (by omega) (by omega)
      have hc := HK.out k
      have hx := hide (HX.out k k1)
      generalize lenV y k = l at *
      have Hs := hide hs
      clear hs
      go_wp2_with fail
      refine (Hs.out _).mono ?_
      rintro e u1 ⟨rfl, rfl⟩
      go_wp2_with fail
      go_round
      case rel => exact ⟨k + 1, A + l, rfl, rfl, by omega, by omega, hide (by rw [hx.out, eA.out]; omega)⟩
      case measure => simp [intOf]; omega
    · obtain rfl : k = m := by omega
      go_wp2_with fail
      go_ret2
      exact ⟨ret_num (by rw [E.out, eA.out]), rfl⟩

set_option maxHeartbeats 1000000 in
theorem refNumber_out (y m d : Int) (w : World) (h1 : -9223372036854775808 ≤ y) (h2 : y ≤ 9223372036854775807) (g1 : -9223372036854775808 ≤ m) (g2 : m ≤ 9223372036854775807) (h : ¬ (1 ≤ d ∧ d ≤ LenV y m)) :
    Calls Tryz.prog 136 #[.int .i64 y, .int .i64 m, .int .i64 d] w fun e w' => e = .returned (.tuple #[.int .i64 0, .int .i64 2]) ∧ w' = w := by
  by_cases hd : d < 1
  · clear h
    go_enter Tryz.func136, Tryz.ntmps136
    go_wp2_with fail
    go_ret2
    exact ⟨rfl, rfl⟩
  · have hd' : LenV y m < d := by omega
    have hd2 : 1 ≤ d := by omega
    have hL := fun w => refLen_any y m w h1 h2 g1 g2
    generalize LenV y m = L at *
    have HL := hide hL
    clear hL h hd
    go_enter Tryz.func136, Tryz.ntmps136
    go_wp2_with fail
    refine (HL.out _).mono ?_
    rintro e u1 ⟨rfl, rfl⟩
    go_wp2_with fail
    go_ret2
    exact ⟨rfl, rfl⟩

end Go.Proofs.YtpkpkpiphgjbaaaGreatDoor

namespace Go.Proofs.YtpkpkpiphgjbaaaGreatDoor
open Go.RowKit
set_option maxRecDepth 100000

/-- A record of three numbers. -/
def dayR (y m d : Int) : Value := .agg #[.int .i64 y, .int .i64 m, .int .i64 d]
theorem rec_below (w : World) (o : Obj) : Below w.heap.size w (w.alloc o) := (Below.refl _ w).alloc (Nat.le_refl _) o

set_option maxHeartbeats 1000000 in
theorem refDate_no (n y : Int) (w : World) (hY : ∀ w, Calls Tryz.prog 131 #[.int .i64 n] w fun e w' => e = .returned (.int .i64 y) ∧ w' = w) (h : y = 0 ∨ 275760 < y) :
    Calls Tryz.prog 86 #[.int .i64 n] w fun e w' => e = .returned (.tuple #[dayR 0 0 0, .int .i64 2]) ∧ Below w.heap.size w w' := by
  have HY := hide hY
  clear hY
  unfold dayR
  rcases h with h | h
  · subst h
    go_enter Tryz.func86, Tryz.ntmps86
    go_wp2_with fail
    refine (HY.out _).mono ?_
    rintro e u1 ⟨rfl, rfl⟩
    go_wp2_with fail
    (try simp only [Exit.inBlock, Exit.then])
    refine bodyPost_ret (v := .tuple #[.agg #[.int .i64 0, .int .i64 0, .int .i64 0], .int .i64 2]) (by simp [results, go_sem]) rfl ?_
    exact ⟨rfl, rec_below _ _⟩
  · have h0 : (y == 0) = false := beq_no (by omega)
    go_enter Tryz.func86, Tryz.ntmps86
    go_wp2_with fail
    refine (HY.out _).mono ?_
    rintro e u1 ⟨rfl, rfl⟩
    go_wp2_with fail
    (try simp only [Exit.inBlock, Exit.then])
    refine bodyPost_ret (v := .tuple #[.agg #[.int .i64 0, .int .i64 0, .int .i64 0], .int .i64 2]) (by simp [results, go_sem]) rfl ?_
    exact ⟨rfl, rec_below _ _⟩
theorem refDate_out (n : Int) (w : World) (h : n < newV 1 ∨ newV 275761 ≤ n) :
    Calls Tryz.prog 86 #[.int .i64 n] w fun e w' => e = .returned (.tuple #[dayR 0 0 0, .int .i64 2]) ∧ Below w.heap.size w w' := by
  rcases h with h | h
  · exact refDate_no n 0 w (fun w => refYear_low n w h) (.inl rfl)
  · rcases Int.lt_or_le n (newV 275762) with g | g
    · exact refDate_no n 275761 w (fun w => refYear_in n 275761 w ⟨h, g⟩ (by decide) (by decide)) (.inr (by decide))
    · exact refDate_no n 0 w (fun w => refYear_high n w g) (.inl rfl)
theorem dayR_eq {y m d c : Int} (h : c = d) : Ending.returned (.tuple #[.agg #[.int .i64 y, .int .i64 m, .int .i64 c], .int .i64 0]) = .returned (.tuple #[dayR y m d, .int .i64 0]) := by rw [h]; rfl

set_option maxHeartbeats 1000000 in
theorem refDate_in (n y m d : Int) (w : World) (h : IsDay n y m d) :
    Calls Tryz.prog 86 #[.int .i64 n] w fun e w' => e = .returned (.tuple #[dayR y m d, .int .i64 0]) ∧ Below w.heap.size w w' := by
  have HY := hide (fun w => refYear_in n y w h.year h.y1 (by have := h.y2; omega))
  have hN := fun (k : Int) (h1 : 1 ≤ k) (h2 : k < m) => month_next h h1 h2
  have hH := month_here h
  obtain ⟨c1, c2⟩ := h.bounds
  have hM := fun (k : Int) (g : k ≤ m) => aheadI_mono (y := y) g
  have e := h.is
  obtain ⟨y1, y2, m1, m2, d1, d2, -⟩ := h
  have hB := fun (k : Int) (h : k ≤ 13) => aheadI_bounds (y := y) h
  have hX := fun (k : Int) (h : 1 ≤ k) => aheadI_next (y := y) h
  have hK := len_bounds y
  have hm := hK m
  have hF := fun w => refNew_any y w y1 (by omega)
  have hS := fun (k : Int) w => reflen_any y k w (by omega) (by omega)
  obtain ⟨n1, n2⟩ := new_range y1 (by omega)
  generalize newV y = N at *
  have r1 : 0 ≤ n - N ∧ n - N ≤ 400 := by have := hB m (by omega); omega
  have y0 : (y == 0) = false := beq_no (by omega)
  have HN := hide hN
  have HH := hide hH
  have HM := hide hM
  have HB := hide hB
  have HX := hide hX
  have HK := hide hK
  have HF := hide hF
  have HS := hide hS
  have E := hide e
  clear hN hH hM hB hX hK hm hF hS e d2
  go_enter Tryz.func86, Tryz.ntmps86
  go_wp2_with fail
  refine (HY.out _).mono ?_
  rintro e u1 ⟨rfl, rfl⟩
  go_wp2_with fail
  refine (HF.out _).mono ?_
  rintro e u1 ⟨rfl, rfl⟩
  go_wp2_with fail
  go_loop [5, 6] (fun t s => ∃ k r : Int, s = .int .i64 k ∧ t = .int .i64 r ∧ 1 ≤ k ∧ k ≤ m ∧ Hid (r = n - N - aheadI y k)) (fun _ s => (m - intOf s).toNat)
  case atStart => exact ⟨1, n - N, rfl, rfl, by omega, by omega, hide (by rw [aheadI_1]; omega)⟩
  case round =>
    obtain ⟨k, r, rfl, rfl, k1, k2, eR⟩ := hrel
    have hb := HB.out k (by omega)
    have hm := HM.out k k2
    have r1 : 0 ≤ r := by have := eR.out; have := E.out; omega
    have r2 : r ≤ 400 := by have := eR.out; omega
    have hs := HS.out k
    have hc := HK.out k
    clear hb hm
    by_cases hk : k < m
    · have hn : lenV y k ≤ r := by rw [eR.out]; exact HN.out k k1 hk
      have hx := hide (HX.out k k1)
      generalize lenV y k = l at *
      have Hs := hide hs
      clear hs
      go_wp2_with fail
      refine (Hs.out _).mono ?_
      rintro e u1 ⟨rfl, rfl⟩
      go_wp2_with fail
      refine (Hs.out _).mono ?_
      rintro e u1 ⟨rfl, rfl⟩
      go_wp2_with fail
      go_round
      case rel => exact ⟨k + 1, r - l, rfl, rfl, by omega, by omega, hide (by rw [hx.out, eR.out]; omega)⟩
      case measure => simp [intOf]; omega
    · obtain rfl : k = m := by omega
      have hn : r < lenV y k := by rw [eR.out]; exact HH.out.1
      have hd := hide (HH.out.2)
      generalize lenV y k = l at *
      have Hs := hide hs
      clear hs hk
      go_wp2_with fail
      refine (Hs.out _).mono ?_
      rintro e u1 ⟨rfl, rfl⟩
      go_wp2_with fail
      (try simp only [Exit.inBlock, Exit.then])
      refine bodyPost_ret (v := .tuple #[.agg #[.int .i64 y, .int .i64 k, .int .i64 (r + 1)], .int .i64 0]) (by simp [results, go_sem]) rfl ?_
      exact ⟨dayR_eq (by rw [eR.out]; exact hd.out), rec_below _ _⟩

theorem dayR_wk {y m d : Int} (h : m = d) : Ending.returned (.tuple #[.agg #[.int .i64 y, .int .i64 m, .int .i64 0], .int .i64 0]) = .returned (.tuple #[dayR y d 0, .int .i64 0]) := by rw [h]; rfl

set_option maxHeartbeats 1000000 in
theorem refWeek_out (n : Int) (w : World) (h : n < firstV 1 ∨ firstV 275761 ≤ n) :
    Calls Tryz.prog 89 #[.int .i64 n] w fun e w' => e = .returned (.tuple #[dayR 0 0 0, .int .i64 2]) ∧ Below w.heap.size w w' := by
  have hN := fun w => reffirst_any 1 w (by decide) (by decide)
  have hM := fun w => reffirst_any 275761 w (by decide) (by decide)
  have h0 := first_mono (show (1 : Int) ≤ 275761 by decide)
  generalize firstV 1 = N at *
  generalize firstV 275761 = M at *
  have HN := hide hN
  have HM := hide hM
  clear hN hM
  unfold dayR
  rcases h with h | h
  · go_enter Tryz.func89, Tryz.ntmps89
    go_wp2_with fail
    refine (HN.out _).mono ?_
    rintro e u1 ⟨rfl, rfl⟩
    go_wp2_with fail
    (try simp only [Exit.inBlock, Exit.then])
    refine bodyPost_ret (v := .tuple #[.agg #[.int .i64 0, .int .i64 0, .int .i64 0], .int .i64 2]) (by simp [results, go_sem]) rfl ?_
    exact ⟨rfl, rec_below _ _⟩
  · have g : N ≤ n := by omega
    go_enter Tryz.func89, Tryz.ntmps89
    go_wp2_with fail
    refine (HN.out _).mono ?_
    rintro e u1 ⟨rfl, rfl⟩
    go_wp2_with fail
    refine (HM.out _).mono ?_
    rintro e u1 ⟨rfl, rfl⟩
    go_wp2_with fail
    (try simp only [Exit.inBlock, Exit.then])
    refine bodyPost_ret (v := .tuple #[.agg #[.int .i64 0, .int .i64 0, .int .i64 0], .int .i64 2]) (by simp [results, go_sem]) rfl ?_
    exact ⟨rfl, rec_below _ _⟩

theorem week_year {n y : Int} (h : InWeeks n y) (y1 : 1 ≤ y) (y2 : y ≤ 275760) : ∃ x, IsYear n x ∧ 1 ≤ x ∧ x ≤ 275761 ∧ x - 1 ≤ y ∧ y ≤ x + 1 := by
  have ⟨a, b⟩ := inWeeks_in h y1 y2
  have c := first_bounds 275761
  have d := (new_step 275761).1
  rw [first_1] at a
  obtain ⟨x, x1, x2, hx⟩ := year_some 275761 (n := n) (a := 1) (by rw [new_1]; exact a) (by show n < newV (275761 + 1); omega)
  refine ⟨x, hx, x1, by omega, ?_⟩
  rcases inWeeks_near hx with g | g | g
  · have := inWeeks_one h g; omega
  · have := inWeeks_one h g; omega
  · have := inWeeks_one h g; omega

set_option maxHeartbeats 1000000 in
theorem refWeek_in (n y : Int) (w : World) (y1 : 1 ≤ y) (y2 : y ≤ 275760) (h : InWeeks n y) :
    Calls Tryz.prog 89 #[.int .i64 n] w fun e w' => e = .returned (.tuple #[dayR y (weekV n y) 0, .int .i64 0]) ∧ Below w.heap.size w w' := by
  obtain ⟨x, hx, x1, x2, x3, x4⟩ := week_year h y1 y2
  have ⟨a, b⟩ := inWeeks_in h y1 y2
  have hN := fun w => reffirst_any 1 w (by decide) (by decide)
  have hM := fun w => reffirst_any 275761 w (by decide) (by decide)
  have hO := fun w => refNew_any 1 w (by decide) (by decide)
  have c : newV 1 ≤ n := by rw [new_1]; rw [first_1] at a; exact a
  have hF := fun (k : Int) w (k1 : 1 ≤ k) (k2 : k ≤ 275763) => reffirst_any k w k1 k2
  have HY := hide (fun w => refYear_in n x w hx x1 x2)
  have hmo := fun (k : Int) (h : k ≤ y) => first_mono h
  have h1 := h.1
  have h2 := h.2
  have h3 := first_step y
  obtain ⟨n1, n2⟩ := first_range y1 (by omega)
  have h4 : n - firstV y ≤ 371 := by omega
  have h5 : n ≤ 300000000 := by omega
  have E := hide (show weekV n y = (n - firstV y) / 7 + 1 from rfl)
  generalize weekV n y = v at *
  generalize firstV 1 = N at *
  generalize firstV 275761 = M at *
  generalize newV 1 = O at *
  have HN := hide hN
  have HM := hide hM
  have HO := hide hO
  have HF := hide hF
  have HX := hide hmo
  have H1 := hide h1
  have H2 := hide h2
  have H4 := hide h4
  have HR := hide (fun k => first_range (y := k))
  clear hN hM hO hF hmo h h3 h4 h1 h2 hx n1 n2
  go_enter Tryz.func89, Tryz.ntmps89
  go_wp2_with fail
  refine (HN.out _).mono ?_
  rintro e u1 ⟨rfl, rfl⟩
  go_wp2_with fail
  refine (HM.out _).mono ?_
  rintro e u1 ⟨rfl, rfl⟩
  go_wp2_with fail
  refine (HO.out _).mono ?_
  rintro e u1 ⟨rfl, rfl⟩
  go_wp2_with fail
  refine (HY.out _).mono ?_
  rintro e u1 ⟨rfl, rfl⟩
  go_wp2_with fail
  go_loop [5] (fun s => ∃ k : Int, s = .int .i64 k ∧ x - 1 ≤ k ∧ k ≤ y) (fun s => (y - intOf s).toNat)
  case atStart => exact ⟨x - 1, rfl, by omega, by omega⟩
  case round =>
    obtain ⟨k, rfl, k1, k2⟩ := hrel
    rcases (show k ≤ 0 ∨ (1 ≤ k ∧ k < y) ∨ k = y by omega) with h | ⟨h, h'⟩ | h
    · go_wp2_with fail
      go_round
      case rel => exact ⟨k + 1, rfl, by omega, by omega⟩
      case measure => simp [intOf]; omega
    · have hA := fun w => HF.out k w (by omega) (by omega)
      have hB := fun w => HF.out (k + 1) w (by omega) (by omega)
      have g1 : firstV k ≤ n := by have := HX.out k (by omega); have := H1.out; omega
      have g2 : firstV (k + 1) ≤ n := by have := HX.out (k + 1) (by omega); have := H1.out; omega
      generalize firstV k = A at *
      generalize firstV (k + 1) = B at *
      have HA := hide hA
      have HB := hide hB
      clear hA hB
      go_wp2_with fail
      refine (HA.out _).mono ?_
      rintro e u1 ⟨rfl, rfl⟩
      go_wp2_with fail
      refine (HB.out _).mono ?_
      rintro e u1 ⟨rfl, rfl⟩
      go_wp2_with fail
      go_round
      case rel => exact ⟨k + 1, rfl, by omega, by omega⟩
      case measure => simp [intOf]; omega
    · subst h
      have hA := fun w => HF.out k w (by omega) (by omega)
      have hB := fun w => HF.out (k + 1) w (by omega) (by omega)
      have g1 := H1.out
      have g2 := H2.out
      have g3 := H4.out
      have g4 := HR.out k y1 (by omega)
      generalize firstV k = A at *
      generalize firstV (k + 1) = B at *
      have g5 : 0 ≤ n - A := by omega
      have HA := hide hA
      have HB := hide hB
      clear hA hB
      go_wp2_with fail
      refine (HA.out _).mono ?_
      rintro e u1 ⟨rfl, rfl⟩
      go_wp2_with fail
      refine (HB.out _).mono ?_
      rintro e u1 ⟨rfl, rfl⟩
      go_wp2_with fail
      refine (HA.out _).mono ?_
      rintro e u1 ⟨rfl, rfl⟩
      go_wp2_with fail
      (try simp only [Exit.inBlock, Exit.then])
      refine bodyPost_ret (v := .tuple #[.agg #[.int .i64 k, .int .i64 ((n - A) / 7 + 1), .int .i64 0], .int .i64 0]) (by simp [results, go_sem]) rfl ?_
      exact ⟨dayR_wk E.out.symm, rec_below _ _⟩

end Go.Proofs.YtpkpkpiphgjbaaaGreatDoor

namespace Go.Proofs.YtpkpkpiphgjbaaaGreatDoor
open Go.RowKit

theorem ret_str {a b : ByteArray} (h : a = b) : Ending.returned (.string a) = .returned (.string b) := by rw [h]


/-- The types of bytes, of slices of bytes and of texts. -/
structure ByteTypes (P : Program) (t e st : TypeId) : Prop where
  sl : P.underlying t = some (.slice e)
  el : P.underlying e = some (.int .u8)
  str : P.underlying st = some .string
  info : (P.info? e).map (fun i => (i.zero, i.size, i.bytes)) = some (some (.int .u8 0), 1, 1)

/-- A byte, as a cell holds it. -/
def cellB (c : UInt8) : Value := .int .u8 (c.toNat : Int)
def txt (l : List UInt8) : ByteArray := ⟨l.toArray⟩
theorem txt_data (l : List UInt8) : (txt l).data.toList = l := rfl
theorem txt_toList (s : ByteArray) : txt s.data.toList = s := rfl
theorem txt_size (l : List UInt8) : (txt l).size = l.length := rfl
theorem txt_inj {l k : List UInt8} (h : txt l = txt k) : l = k := by have := congrArg (fun s : ByteArray => s.data.toList) h; exact this

/-- The value v is a slice of the call's own (its block from 'base' on) that holds the bytes l. -/
def OwnsB (e : TypeId) (base : Nat) (w : World) (v : Value) (l : List UInt8) : Prop := w.ownsRow base e 1 v l.length (l.map cellB)

theorem OwnsB.nil (e : TypeId) (base : Nat) (w : World) : OwnsB e base w (.slice none 0 0) [] := World.ownsRow_nil w base e 1

theorem OwnsB.below {e : TypeId} {base : Nat} {w w' : World} {v : Value} {l : List UInt8} (h : OwnsB e base w v l) (hb : Below w.heap.size w w') : OwnsB e base w' v l := by
  obtain ⟨h1, h2⟩ := h
  refine ⟨h1, ?_⟩
  rcases h2 with h2 | ⟨g, cap, cur, hv, hg, hh, r⟩
  · exact Or.inl h2
  · refine Or.inr ⟨g, cap, cur, hv, hg, ?_, r⟩
    rw [hb.block g ?_]; exact hh
    rcases Nat.lt_or_ge g w.heap.size with h' | h'
    · exact h'
    · simp [Array.getElem?_eq_none h'] at hh

theorem OwnsB.mono {e : TypeId} {base base' : Nat} {w : World} {v : Value} {l : List UInt8} (h : OwnsB e base w v l) (hb : base' ≤ base) : OwnsB e base' w v l := by
  obtain ⟨h1, h2⟩ := h
  refine ⟨h1, ?_⟩
  rcases h2 with h2 | ⟨g, cap, cur, hv, hg, r⟩
  · exact Or.inl h2
  · exact Or.inr ⟨g, cap, cur, hv, by omega, r⟩

theorem strOfNums_bytes (l : List UInt8) : strOfNums (l.map fun c => (c.toNat : Int)) = txt l := by
  unfold strOfNums txt
  rw [List.map_map]
  have : ((fun n : Int => UInt8.ofNat n.toNat) ∘ fun c : UInt8 => (c.toNat : Int)) = id := by
    funext c; simp
  rw [this, List.map_id]

/-- 'string(b)' of such a slice. -/
theorem OwnsB.text {P : Program} {t e st : TypeId} (bt : ByteTypes P t e st) {base : Nat} {w : World} {v : Value} {l : List UInt8} (h : OwnsB e base w v l) :
    (convert t st v).run P w = .ok (.string (txt l)) w := by
  rcases h.2 with ⟨rfl, hn⟩ | ⟨g, cap, cur, rfl, hg, hh, r⟩
  · have : l = [] := List.eq_nil_of_length_eq_zero hn
    subst this
    exact run_convert_bytes_nil (P := P) w t e bt.sl bt.el 0 0 st bt.str
  · have hl : (l.map fun c => (c.toNat : Int)).length = l.length := by simp
    have := run_convert_bytes_arg (P := P) w t e bt.sl bt.el g 0 l.length cap _ hl (fun i hi => by
      rw [Nat.zero_add, World.ownsRow.cellAt h i (by omega)]
      simp [cellB, hi]) st bt.str
    rw [this, strOfNums_bytes]

theorem OwnsB.fits {e : TypeId} {base : Nat} {w : World} {v : Value} {l : List UInt8} (h : OwnsB e base w v l) : l.length ≤ maxLen := by
  rcases h.2 with ⟨rfl, hn⟩ | ⟨g, cap, cur, rfl, hg, hh, h1, h2, r⟩
  · rw [hn]; exact Nat.zero_le _
  · omega

theorem grown_below {e : TypeId} {base : Nat} {w w' : World} {v : Value} {n : Nat} {xs : List Value} (h : w.ownsRow base e 1 v n xs) (hg : w.grownBy w' v.ownBlock) (hB : base ≤ w.heap.size) : Below base w w' :=
  (Below.refl base w).grown hg hB fun k hk => (h.lt k hk).1

/-- 'out = append(out, c)': the byte was laid in a block of its own first. -/
theorem wpList_append_byte {P : Program} {t e st : TypeId} (bt : ByteTypes P t e st) {ops : Array Oper} {rest : List Oper} {o : Oper} {a : Act} {Q : Exit → Act → World → Prop} (w : World) (y : Int)
    (hgd : o.guard = none) (s x : Operand) (ho : o.op = .call { callee := .builtin .append, args := #[s, x], argTypes := #[t, t] })
    (base : Nat) (v : Value) (l : List UInt8) (c : UInt8) (hy : y = (c.toNat : Int)) (hs : a.eval s = v) (hown : OwnsB e base w v l)
    (hx : a.eval x = .slice (some ⟨w.heap.size, 0, none⟩) 1 1) (hlen : l.length ≤ 70368744177664) (hbase : base ≤ w.heap.size)
    (h : ∀ v' w', OwnsB e base w' v' (l ++ [c]) → Below base w w' → wpList P ops Q rest (a.put o.dst v') w') : wpList P ops Q (o :: rest) a (w.alloc (.cells #[.int .u8 y] e)) := by
  subst hy
  obtain ⟨i, hi, hz0, hz1, hz2⟩ := info_parts bt.info
  have hown' : (w.alloc (.cells #[.int .u8 (c.toNat : Int)] e)).ownsRow base e 1 v l.length (l.map cellB) := World.ownsRow.alloc hown _
  refine wpList_append_own (P := P) _ hgd s x t ho base e i (.int .u8 0) 1 1 bt.sl hi hz0 hz1 hz2 rfl (by decide) v l.length (l.map cellB) hs hown' ⟨w.heap.size, 0, none⟩ 1 1 [cellB c] hx rfl (cell_one_new _ _ _) (fun u hu => by simp at hu; subst hu; rfl) (by unfold maxLen; omega) (by omega) (by simp; omega) ?_
  intro v' w' h1 h2 _
  refine h v' w' ?_ (((Below.refl base w).alloc hbase _).trans (grown_below hown' h2 (by simp; omega)))
  simpa [OwnsB] using h1

/-- 'out = append(out, s...)', s a text. -/
theorem wpList_append_text {P : Program} {t e st : TypeId} (bt : ByteTypes P t e st) {ops : Array Oper} {rest : List Oper} {o : Oper} {a : Act} {Q : Exit → Act → World → Prop} (w : World)
    (hgd : o.guard = none) (sl x : Operand) (ho : o.op = .call { callee := .builtin .append, args := #[sl, x], argTypes := #[t, st] })
    (base : Nat) (v : Value) (l : List UInt8) (s : ByteArray) (hs : a.eval sl = v) (hown : OwnsB e base w v l)
    (hx : a.eval x = .string s) (hlen : l.length + s.size ≤ 70368744177664) (hbase : base ≤ w.heap.size)
    (h : ∀ v' w', OwnsB e base w' v' (l ++ s.data.toList) → Below base w w' → wpList P ops Q rest (a.put o.dst v') w') : wpList P ops Q (o :: rest) a w := by
  obtain ⟨i, hi, hz0, hz1, hz2⟩ := info_parts bt.info
  refine Lib.wpList_append_own_string (P := P) w hgd sl x t st ho base e i bt.sl bt.str hi hz0 hz1 hz2 v l.length (l.map cellB) hs hown s hx (by unfold maxLen; omega) (by omega) hbase ?_
  intro v' w' h1 h2 _
  refine h v' w' ?_ (grown_below hown h2 hbase)
  have e1 : Lib.strCells s = s.data.toList.map cellB := by simp [Lib.strCells, cellB]
  have e2 : s.size = s.data.toList.length := by simp
  rw [e1, e2, ← List.map_append, ← List.length_append] at h1
  exact h1

/-- The types of texts and of slices of texts. -/
structure TextTypes (P : Program) (t e : TypeId) : Prop where
  sl : P.underlying t = some (.slice e)
  el : P.underlying e = some .string
  info : (P.info? e).map (fun i => (i.zero, i.size, i.bytes)) = some (some (.string ⟨#[]⟩), 1, 16)

/-- A text, as a cell holds it. -/
def cellT (l : List UInt8) : Value := .string (txt l)
/-- The value v is a slice of the call's own (its block from 'base' on) that holds the texts ws. -/
def OwnsT (e : TypeId) (base : Nat) (w : World) (v : Value) (ws : List (List UInt8)) : Prop := w.ownsRow base e 1 v ws.length (ws.map cellT)
theorem OwnsT.nil (e : TypeId) (base : Nat) (w : World) : OwnsT e base w (.slice none 0 0) [] := World.ownsRow_nil w base e 1
theorem ownsRow_below {e : TypeId} {base n : Nat} {w w' : World} {v : Value} {xs : List Value} (h : w.ownsRow base e 1 v n xs) (hb : Below w.heap.size w w') : w'.ownsRow base e 1 v n xs := by
  obtain ⟨h1, h2⟩ := h
  refine ⟨h1, ?_⟩
  rcases h2 with h2 | ⟨g, cap, cur, hv, hg, hh, r⟩
  · exact Or.inl h2
  · refine Or.inr ⟨g, cap, cur, hv, hg, ?_, r⟩
    rw [hb.block g ?_]; exact hh
    rcases Nat.lt_or_ge g w.heap.size with h' | h'
    · exact h'
    · simp [Array.getElem?_eq_none h'] at hh
theorem OwnsT.below {e : TypeId} {base : Nat} {w w' : World} {v : Value} {ws : List (List UInt8)} (h : OwnsT e base w v ws) (hb : Below w.heap.size w w') : OwnsT e base w' v ws := ownsRow_below h hb

/-- 'out = append(out, s)', s a text: it was laid in a block of its own first. -/
theorem wpList_append_item {P : Program} {t e : TypeId} (tt : TextTypes P t e) {ops : Array Oper} {rest : List Oper} {o : Oper} {a : Act} {Q : Exit → Act → World → Prop} (w : World) (y : ByteArray)
    (hgd : o.guard = none) (s x : Operand) (ho : o.op = .call { callee := .builtin .append, args := #[s, x], argTypes := #[t, t] })
    (base : Nat) (v : Value) (l : List (List UInt8)) (c : List UInt8) (hy : y = txt c) (hs : a.eval s = v) (hown : OwnsT e base w v l)
    (hx : a.eval x = .slice (some ⟨w.heap.size, 0, none⟩) 1 1) (hlen : l.length ≤ 4398046511104) (hbase : base ≤ w.heap.size)
    (h : ∀ v' w', OwnsT e base w' v' (l ++ [c]) → Below base w w' → wpList P ops Q rest (a.put o.dst v') w') : wpList P ops Q (o :: rest) a (w.alloc (.cells #[.string y] e)) := by
  subst hy
  obtain ⟨i, hi, hz0, hz1, hz2⟩ := info_parts tt.info
  have hown' : (w.alloc (.cells #[.string (txt c)] e)).ownsRow base e 1 v l.length (l.map cellT) := World.ownsRow.alloc hown _
  refine wpList_append_own (P := P) _ hgd s x t ho base e i (.string ⟨#[]⟩) 1 16 tt.sl hi hz0 hz1 hz2 rfl (by decide) v l.length (l.map cellT) hs hown' ⟨w.heap.size, 0, none⟩ 1 1 [cellT c] hx rfl (cell_one_new _ _ _) (fun u hu => by simp at hu; subst hu; rfl) (by unfold maxLen; omega) (by omega) (by simp; omega) ?_
  intro v' w' h1 h2 _
  refine h v' w' ?_ (((Below.refl base w).alloc hbase _).trans (grown_below hown' h2 (by simp; omega)))
  simpa [OwnsT] using h1

/-- The world behind '[]byte(s)'. -/
theorem bytes_below (w : World) (e : TypeId) (s : ByteArray) : Below w.heap.size w (Lib.bytesWorld w e s) :=
  ⟨rfl, rfl, rfl, by rw [Lib.bytesWorld_size]; omega, fun k hk => Lib.bytesWorld_at_old w e s k hk⟩
theorem bytes_free (w : World) (e : TypeId) (s : ByteArray) (j : Nat) (hj : j < s.size) : (Lib.bytesWorld w e s).frozen? ⟨w.heap.size, j, none⟩ = false := by
  have hs : j < (Lib.bytesCells w e s).size := by
    simp [Lib.bytesCells]; omega
  simp [World.frozen?, Lib.bytesWorld_at_new]
  omega

end Go.Proofs.YtpkpkpiphgjbaaaGreatDoor

namespace Go.Proofs.YtpkpkpiphgjbaaaGreatDoor
open Go.RowKit

theorem left_pos {n s : Int} (hn : 0 ≤ n) : n.tmod s = n % s := Int.tmod_eq_emod_of_nonneg hn
theorem left_bounds {n s : Int} (hs : 0 < s) (hn : n < 0) : -s < n.tmod s ∧ n.tmod s ≤ 0 := by
  have h1 : n.tmod s = -((-n).tmod s) := by rw [Int.neg_tmod, Int.neg_neg]
  have h2 := Int.tmod_eq_emod_of_nonneg (a := -n) (b := s) (by omega)
  have h3 := Int.emod_nonneg (-n) (by omega : s ≠ 0)
  have h4 := Int.emod_lt_of_pos (-n) hs
  omega
theorem left_neg0 {n s : Int} (h : n.tmod s = 0) : n % s = 0 := Int.emod_eq_zero_of_dvd (Int.dvd_of_tmod_eq_zero h)
theorem left_neg {n s : Int} (hs : 0 < s) (hn : n < 0) (h : n.tmod s ≠ 0) : n % s = s + n.tmod s := by
  have ⟨b1, b2⟩ := left_bounds hs hn
  have e := Int.tmod_add_mul_tdiv n s
  have e2 : n = (s + n.tmod s) + s * (n.tdiv s - 1) := by rw [Int.mul_sub, Int.mul_one]; omega
  have e3 : ((s + n.tmod s) + s * (n.tdiv s - 1)) % s = (s + n.tmod s) % s := Int.add_mul_emod_self_left ..
  rw [← e2] at e3
  rw [e3]
  exact Int.emod_eq_of_lt (by omega) (by omega)

def fitV (n base step : Int) : Bool := decide (1 ≤ step ∧ n % step = base % step)
/-- What n is too much. -/
def muchV (n base step : Int) : Int := (n - base) % step
theorem much_bounds {n base step : Int} (h : 1 ≤ step) : 0 ≤ muchV n base step ∧ muchV n base step < step :=
  ⟨Int.emod_nonneg _ (by omega), Int.emod_lt_of_pos _ (by omega)⟩
theorem much_up {n base step : Int} (h : 1 ≤ step) (hab : base % step ≤ n % step) : n % step - base % step = muchV n base step := by
  have h1 := Int.emod_nonneg n (by omega : step ≠ 0)
  have h2 := Int.emod_lt_of_pos n (by omega : 0 < step)
  have h3 := Int.emod_nonneg base (by omega : step ≠ 0)
  unfold muchV
  rw [Int.sub_emod]
  exact (Int.emod_eq_of_lt (by omega) (by omega)).symm
theorem much_down {n base step : Int} (h : 1 ≤ step) (hab : ¬ base % step ≤ n % step) : step - (base % step - n % step) = muchV n base step := by
  have h1 := Int.emod_nonneg n (by omega : step ≠ 0)
  have h2 := Int.emod_lt_of_pos base (by omega : 0 < step)
  have h3 := Int.emod_nonneg base (by omega : step ≠ 0)
  unfold muchV
  rw [Int.sub_emod]
  have e : (n % step - base % step + step * 1) % step = (n % step - base % step) % step := Int.add_mul_emod_self_left ..
  have e2 : (n % step - base % step + step) % step = n % step - base % step + step := Int.emod_eq_of_lt (by omega) (by omega)
  rw [← e, Int.mul_one, e2]; omega
/-- Is there a greatest one that fits and isn't above n, of 64 bits? -/
def downOk (n base step : Int) : Bool := decide (1 ≤ step ∧ muchV n base step ≤ n + 9223372036854775808)
def downV (n base step : Int) : Int := if downOk n base step then n - muchV n base step else 0
theorem downV_yes {n base step : Int} (h : downOk n base step = true) : downV n base step = n - muchV n base step := by unfold downV; rw [if_pos h]
theorem downV_no {n base step : Int} (h : downOk n base step = false) : downV n base step = 0 := by unfold downV; rw [if_neg (by rw [h]; decide)]
theorem down_fits {n base step : Int} (h : 1 ≤ step) : fitV (n - muchV n base step) base step = true := by
  unfold fitV
  refine decide_eq_true ⟨h, ?_⟩
  unfold muchV
  have e : n - (n - base) % step = base + step * ((n - base) / step) := by
    have := Int.mul_ediv_add_emod (n - base) step
    omega
  rw [e, Int.add_mul_emod_self_left]

end Go.Proofs.YtpkpkpiphgjbaaaGreatDoor

namespace Go.Proofs.YtpkpkpiphgjbaaaGreatDoor
open Go.RowKit
set_option maxRecDepth 100000

theorem left_at {n s : Int} (h3 : 1 ≤ s) : (0 ≤ n.tmod s → n % s = n.tmod s) ∧ (n.tmod s < 0 → n % s = n.tmod s + s ∧ -s < n.tmod s ∧ n < 0) := by
  by_cases hn : 0 ≤ n
  · have e := left_pos (n := n) (s := s) hn
    have := Int.emod_nonneg n (by omega : s ≠ 0)
    exact ⟨fun _ => e.symm, fun h => by omega⟩
  · have ⟨b1, b2⟩ := left_bounds (n := n) (s := s) (by omega) (by omega)
    refine ⟨fun h => ?_, fun h => ⟨?_, b1, by omega⟩⟩
    · have e : n.tmod s = 0 := by omega
      rw [left_neg0 e, e]
    · have := left_neg (n := n) (s := s) (by omega) (by omega) (by omega)
      omega
theorem left_less {n s : Int} (h3 : 1 ≤ s) : 0 ≤ n % s ∧ n % s < s := ⟨Int.emod_nonneg _ (by omega), Int.emod_lt_of_pos _ (by omega)⟩

set_option maxHeartbeats 1000000 in
theorem refLeft_any (n s : Int) (w : World) (_h1 : -9223372036854775808 ≤ n) (_h2 : n ≤ 9223372036854775807) (h3 : 1 ≤ s) (h4 : s ≤ 9223372036854775807) :
    Calls Tryz.prog 62 #[.int .i64 n, .int .i64 s] w fun e w' => e = .returned (.int .i64 (n % s)) ∧ w' = w := by
  have ⟨a1, a2⟩ := left_at (n := n) h3
  have l3 := left_pos (n := n) (s := s)
  have l4 := left_bounds (n := n) (s := s) (by omega)
  by_cases hn : 0 ≤ n
  · clear a1 a2 l3 l4
    go_enter Tryz.func62, Tryz.ntmps62
    go_wp2_with fail
    go_ret
    exact ⟨rfl, rfl⟩
  · have hn' : n < 0 := by omega
    have ⟨b1, b2⟩ := l4 hn'
    by_cases hc : n.tmod s = 0
    · have E := hide ((a1 (by omega)).trans hc)
      have hc1 : (n.tmod s == 0) = true := by simpa using hc
      clear a1 a2 l3 l4 hn hc
      go_enter Tryz.func62, Tryz.ntmps62
      go_wp2_with fail
      go_ret
      exact ⟨ret_int E.out.symm, rfl⟩
    · have E := hide (a2 (by omega)).1
      have hc1 : (n.tmod s == 0) = false := by simpa using hc
      clear a1 a2 l3 l4 hn hc
      go_enter Tryz.func62, Tryz.ntmps62
      go_wp2_with fail
      go_ret
      exact ⟨ret_int (by rw [E.out]; omega), rfl⟩


end Go.Proofs.YtpkpkpiphgjbaaaGreatDoor

namespace Go.Proofs.YtpkpkpiphgjbaaaGreatDoor
open Go.RowKit

/-- The small letter of a byte. -/
def lowB (c : UInt8) : UInt8 := if 65 ≤ c.toNat ∧ c.toNat ≤ 90 then c + 32 else c
def lowL (l : List UInt8) : List UInt8 := l.map lowB
def lowS (s : ByteArray) : ByteArray := txt (lowL s.data.toList)
def byteAt (s : ByteArray) (j : Nat) : UInt8 := s.data.toList.getD j 0

theorem byteAt_eq (s : ByteArray) (j : Nat) (h : j < s.size) : s[j] = byteAt s j := by
  unfold byteAt; simp [List.getD, h]; rfl
theorem byteAt_take (s : ByteArray) (k : Nat) (h : k < s.size) : s.data.toList.take (k + 1) = s.data.toList.take k ++ [byteAt s k] := by
  rw [List.take_succ_eq_append_getElem (by simpa using h), ← byteAt_eq s k h]; rfl
theorem lowB_yes (c : UInt8) (h1 : 65 ≤ c.toNat) (h2 : c.toNat ≤ 90) : (lowB c).toNat = c.toNat + 32 := by
  unfold lowB; rw [if_pos ⟨h1, h2⟩]; simp; omega
theorem lowB_no (c : UInt8) (h : ¬ (65 ≤ c.toNat ∧ c.toNat ≤ 90)) : lowB c = c := by
  unfold lowB; rw [if_neg h]
theorem lowB_lowB (c : UInt8) : lowB (lowB c) = lowB c := by
  by_cases h : 65 ≤ c.toNat ∧ c.toNat ≤ 90
  · have := lowB_yes c h.1 h.2
    exact lowB_no _ (by omega)
  · rw [lowB_no c h, lowB_no c h]
theorem lowL_lowL (l : List UInt8) : lowL (lowL l) = lowL l := by
  unfold lowL; rw [List.map_map]; exact List.map_congr_left fun c _ => lowB_lowB c
theorem lowL_length (l : List UInt8) : (lowL l).length = l.length := by simp [lowL]
theorem lowL_take (s : ByteArray) (k : Nat) (h : k < s.size) : lowL (s.data.toList.take (k + 1)) = lowL (s.data.toList.take k) ++ [lowB (byteAt s k)] := by
  rw [byteAt_take s k h]; simp [lowL]
theorem lowS_data (s : ByteArray) : (lowS s).data.toList = lowL s.data.toList := rfl
theorem lowS_lowS (s : ByteArray) : lowS (lowS s) = lowS s := by
  unfold lowS; rw [txt_data, lowL_lowL]
theorem lowS_size (s : ByteArray) : (lowS s).size = s.size := by
  unfold lowS; rw [txt_size, lowL_length]; simp

end Go.Proofs.YtpkpkpiphgjbaaaGreatDoor
