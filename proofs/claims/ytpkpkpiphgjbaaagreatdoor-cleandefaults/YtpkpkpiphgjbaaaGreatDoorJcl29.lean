/- Joined texts. StepR3: The document's Flags of layer 12: it answers by the function of 'StepP'; what lay in the world lies there still. Conditions: as in 'StepR1'. -/
import Derived.Test.YtpkpkpiphgjbaaaGreatDoorJcl15
import Derived.Test.YtpkpkpiphgjbaaaGreatDoorJcl23
import Derived.Deep.DeepCutAuto
namespace Go.Proofs.YtpkpkpiphgjbaaaGreatDoor
open Go.RowKit
set_option maxRecDepth 100000

theorem opt_some (n : Int) : optV (some n) = .tuple #[.int .i64 n, .bool true] := rfl
theorem opt_none : optV none = .tuple #[.int .i64 0, .bool false] := rfl
def flagV (f : Bool × Bool × Bool) : Value := .agg #[.bool f.1, .bool f.2.1, .bool f.2.2]
theorem turn_left (k : Int) (M : Option Int) : turnG k none M = false := by unfold turnG; cases k == 11 <;> rfl
theorem turn_right (k : Int) (L : Option Int) : turnG k L none = false := by unfold turnG; cases k == 11 <;> cases L <;> rfl
set_option maxHeartbeats 8000000 in
set_option maxRecDepth 100000 in
theorem refFlags_none (k : Int) (v : Value) (ax : List (ByteArray × ByteArray)) (s : ByteArray) (w : World) (hv : AttrsV w v ax) (hs : s.size ≤ 100000) (hN : numK k s.data.toList = none) :
    Calls Tryz.prog 15 #[.int .i64 k, v, .string s] w fun e w' => e = .returned (flagV (flagsK k ax s.data.toList)) ∧ Below w.heap.size w w' := by
  have HV := hide (fun W => refValue_any k s W hs)
  have E : Hid (flagsK k ax s.data.toList = (false, false, false)) := by show _ = _; unfold flagsK; rw [hN]
  rw [hN] at HV
  obtain ⟨p, c, rfl, _⟩ := hv
  clear hN hs
  have B0 : Hid (Below w.heap.size w (w.alloc (.cells #[.bool false, .bool false, .bool false] 31))) := (Below.refl _ w).alloc (Nat.le_refl _) _
  have N0 := hide (Bk.new w [.bool false, .bool false, .bool false] 31)
  go_enter Tryz.func15, Tryz.ntmps15
  go_wp2_with fail
  generalize w.alloc (.cells #[.bool false, .bool false, .bool false] 31) = w0 at *
  refine (HV.out _).mono ?_
  rintro e w1 ⟨rfl, b1⟩
  have N1 := hide (N0.out.below b1)
  have r0 := N1.out.cell 0 rfl
  have r1 := N1.out.cell 1 rfl
  have r2 := N1.out.cell 2 rfl
  have g0 := N1.out.free 0
  have g1 := N1.out.free 1
  have g2 := N1.out.free 2
  unfold optV
  go_wp2_with fail
  refine bodyPost_ret (v := .agg #[.bool false, .bool false, .bool false]) (by simp [results, go_sem, r0, r1, r2]) rfl ?_
  exact ⟨by rw [E.out]; rfl, ((((chain B0.out b1).setCell (Nat.le_refl _) _).setCell (Nat.le_refl _) _).setCell (Nat.le_refl _) _)⟩

set_option maxHeartbeats 8000000 in
set_option maxRecDepth 100000 in
theorem refFlags_000n (k : Int) (v : Value) (ax : List (ByteArray × ByteArray)) (s : ByteArray) (w : World) (hv : AttrsV w v ax) (hz : AxOK ax) (hs : s.size ≤ 100000) {n : Int} (hN : numK k s.data.toList = some n) (hL : leastK k ax = none) (hM : mostK k ax = none) (hS : stepK k ax = none) (hk : ¬ k = 11) :
    Calls Tryz.prog 15 #[.int .i64 k, v, .string s] w fun e w' => e = .returned (flagV (flagsK k ax s.data.toList)) ∧ Below w.heap.size w w' := by
  have HV := hide (fun W => refValue_any k s W hs)
  rw [hN, opt_some] at HV
  have HL := hide (fun W (hb : Below w.heap.size w W) => refLeastK_any k v ax W (hv.below hb) hz)
  rw [hL, opt_none] at HL
  have HM := hide (fun W (hb : Below w.heap.size w W) => refMostK_any k v ax W (hv.below hb) hz)
  rw [hM, opt_none] at HM
  have HS := hide (fun W (hb : Below w.heap.size w W) => refStepK_any k v ax W (hv.below hb) hz)
  rw [hS, opt_none] at HS
  have E : Hid (flagsK k ax s.data.toList = (false, false, false)) := by
    show _ = _
    unfold flagsK
    rw [hN, hL, hM, hS]
    show flagsG k n none none none (baseK k ax) = _
    unfold flagsG
    rw [if_neg (show ¬ turnG k none none = true from by rw [show turnG k none none = false from turn_left k _]; decide)]
    rfl
  obtain ⟨p, c, rfl, _⟩ := hv
  have k11 : (k == 11) = false := by exact beq_eq_false_iff_ne.2 hk
  clear hN hs hz hL hM hS
  have B0 : Hid (Below w.heap.size w (w.alloc (.cells #[.bool false, .bool false, .bool false] 31))) := (Below.refl _ w).alloc (Nat.le_refl _) _
  have N0 := hide (Bk.new w [.bool false, .bool false, .bool false] 31)
  go_enter Tryz.func15, Tryz.ntmps15
  go_wp2_with fail
  generalize w.alloc (.cells #[.bool false, .bool false, .bool false] 31) = w0 at *
  refine (HV.out _).mono ?_
  rintro e w1 ⟨rfl, b1⟩
  have B1 := hide (chain B0.out b1)
  have N1 := hide (N0.out.below b1)
  clear b1 B0 N0 HV
  go_wp2_with fail
  refine (HL.out _ B1.out).mono ?_
  rintro e w2 ⟨rfl, b2⟩
  have B2 := hide (chain B1.out b2)
  have N2 := hide (N1.out.below b2)
  clear b2 B1 N1 HL
  go_wp2_with fail
  refine (HM.out _ B2.out).mono ?_
  rintro e w3 ⟨rfl, b3⟩
  have B3 := hide (chain B2.out b3)
  have N3 := hide (N2.out.below b3)
  clear b3 B2 N2 HM
  go_wp2_with fail
  refine (HS.out _ B3.out).mono ?_
  rintro e w4 ⟨rfl, b4⟩
  have B4 := hide (chain B3.out b4)
  have N4 := hide (N3.out.below b4)
  clear b4 B3 N3 HS
  have BX : Hid (Below w4.heap.size w4 (w4.alloc (.cells #[.bool (false), .bool (false), .bool false] 31))) := (Below.refl _ w4).alloc (Nat.le_refl _) _
  have WX := hide (Bk.new w4 [.bool (false), .bool (false), .bool false] 31)
  go_upto_region 8 with fail
  generalize w4.alloc (.cells #[.bool (false), .bool (false), .bool false] 31) = x4 at *
  have NX := hide (N4.out.below BX.out)
  have B5 := hide (chain B4.out BX.out)
  have lt4 : w.heap.size < w4.heap.size := N4.out.lt
  have ne4 : w.heap.size ≠ w4.heap.size := by omega
  have ne5 : ¬ w4.heap.size = w.heap.size := by omega
  clear N4 BX
  have B6 := B5
  have N6 := NX
  have W6 := WX
  clear B5 NX WX
  have r0 := N6.out.cell 0 rfl
  have r1 := N6.out.cell 1 rfl
  have r2 := N6.out.cell 2 rfl
  have g0 := N6.out.free 0
  have g1 := N6.out.free 1
  have g2 := N6.out.free 2
  have x0 := W6.out.cell 0 rfl
  have x1 := W6.out.cell 1 rfl
  have x2 := W6.out.cell 2 rfl
  have y0 := W6.out.free 0
  have y1 := W6.out.free 1
  have y2 := W6.out.free 2
  go_wp2_with fail
  refine bodyPost_ret (v := .agg #[.bool (false), .bool (false), .bool (false)]) (by simp [results, go_sem, r0, r1, r2]) rfl ?_
  refine ⟨by rw [E.out]; rfl, ?_⟩
  exact ((((B6.out.setCell (Nat.le_of_lt lt4) _).setCell (Nat.le_refl _) _).setCell (Nat.le_refl _) _).setCell (Nat.le_refl _) _)

set_option maxHeartbeats 8000000 in
set_option maxRecDepth 100000 in
theorem refFlags_000y (k : Int) (v : Value) (ax : List (ByteArray × ByteArray)) (s : ByteArray) (w : World) (hv : AttrsV w v ax) (hz : AxOK ax) (hs : s.size ≤ 100000) {n : Int} (hN : numK k s.data.toList = some n) (hL : leastK k ax = none) (hM : mostK k ax = none) (hS : stepK k ax = none) (hk : k = 11) :
    Calls Tryz.prog 15 #[.int .i64 k, v, .string s] w fun e w' => e = .returned (flagV (flagsK k ax s.data.toList)) ∧ Below w.heap.size w w' := by
  have HV := hide (fun W => refValue_any k s W hs)
  rw [hN, opt_some] at HV
  have HL := hide (fun W (hb : Below w.heap.size w W) => refLeastK_any k v ax W (hv.below hb) hz)
  rw [hL, opt_none] at HL
  have HM := hide (fun W (hb : Below w.heap.size w W) => refMostK_any k v ax W (hv.below hb) hz)
  rw [hM, opt_none] at HM
  have HS := hide (fun W (hb : Below w.heap.size w W) => refStepK_any k v ax W (hv.below hb) hz)
  rw [hS, opt_none] at HS
  have E : Hid (flagsK k ax s.data.toList = (false, false, false)) := by
    show _ = _
    unfold flagsK
    rw [hN, hL, hM, hS]
    show flagsG k n none none none (baseK k ax) = _
    unfold flagsG
    rw [if_neg (show ¬ turnG k none none = true from by rw [show turnG k none none = false from turn_left k _]; decide)]
    rfl
  obtain ⟨p, c, rfl, _⟩ := hv
  have k11 : (k == 11) = true := by rw [hk]; rfl
  clear hN hs hz hL hM hS
  have B0 : Hid (Below w.heap.size w (w.alloc (.cells #[.bool false, .bool false, .bool false] 31))) := (Below.refl _ w).alloc (Nat.le_refl _) _
  have N0 := hide (Bk.new w [.bool false, .bool false, .bool false] 31)
  subst hk
  go_enter Tryz.func15, Tryz.ntmps15
  go_wp2_with fail
  generalize w.alloc (.cells #[.bool false, .bool false, .bool false] 31) = w0 at *
  refine (HV.out _).mono ?_
  rintro e w1 ⟨rfl, b1⟩
  have B1 := hide (chain B0.out b1)
  have N1 := hide (N0.out.below b1)
  clear b1 B0 N0 HV
  go_wp2_with fail
  refine (HL.out _ B1.out).mono ?_
  rintro e w2 ⟨rfl, b2⟩
  have B2 := hide (chain B1.out b2)
  have N2 := hide (N1.out.below b2)
  clear b2 B1 N1 HL
  go_wp2_with fail
  refine (HM.out _ B2.out).mono ?_
  rintro e w3 ⟨rfl, b3⟩
  have B3 := hide (chain B2.out b3)
  have N3 := hide (N2.out.below b3)
  clear b3 B2 N2 HM
  go_wp2_with fail
  refine (HS.out _ B3.out).mono ?_
  rintro e w4 ⟨rfl, b4⟩
  have B4 := hide (chain B3.out b4)
  have N4 := hide (N3.out.below b4)
  clear b4 B3 N3 HS
  have BX : Hid (Below w4.heap.size w4 (w4.alloc (.cells #[.bool (false), .bool (false), .bool false] 31))) := (Below.refl _ w4).alloc (Nat.le_refl _) _
  have WX := hide (Bk.new w4 [.bool (false), .bool (false), .bool false] 31)
  go_upto_region 8 with fail
  generalize w4.alloc (.cells #[.bool (false), .bool (false), .bool false] 31) = x4 at *
  have NX := hide (N4.out.below BX.out)
  have B5 := hide (chain B4.out BX.out)
  have lt4 : w.heap.size < w4.heap.size := N4.out.lt
  have ne4 : w.heap.size ≠ w4.heap.size := by omega
  have ne5 : ¬ w4.heap.size = w.heap.size := by omega
  clear N4 BX
  have B6 := B5
  have N6 := NX
  have W6 := WX
  clear B5 NX WX
  have r0 := N6.out.cell 0 rfl
  have r1 := N6.out.cell 1 rfl
  have r2 := N6.out.cell 2 rfl
  have g0 := N6.out.free 0
  have g1 := N6.out.free 1
  have g2 := N6.out.free 2
  have x0 := W6.out.cell 0 rfl
  have x1 := W6.out.cell 1 rfl
  have x2 := W6.out.cell 2 rfl
  have y0 := W6.out.free 0
  have y1 := W6.out.free 1
  have y2 := W6.out.free 2
  go_wp2_with fail
  refine bodyPost_ret (v := .agg #[.bool (false), .bool (false), .bool (false)]) (by simp [results, go_sem, r0, r1, r2]) rfl ?_
  refine ⟨by rw [E.out]; rfl, ?_⟩
  exact ((((B6.out.setCell (Nat.le_of_lt lt4) _).setCell (Nat.le_refl _) _).setCell (Nat.le_refl _) _).setCell (Nat.le_refl _) _)

set_option maxHeartbeats 8000000 in
set_option maxRecDepth 100000 in
theorem refFlags_010n (k : Int) (v : Value) (ax : List (ByteArray × ByteArray)) (s : ByteArray) (w : World) (hv : AttrsV w v ax) (hz : AxOK ax) (hs : s.size ≤ 100000) {n hi : Int} (hN : numK k s.data.toList = some n) (hL : leastK k ax = none) (hM : mostK k ax = some hi) (hS : stepK k ax = none) (hk : ¬ k = 11) :
    Calls Tryz.prog 15 #[.int .i64 k, v, .string s] w fun e w' => e = .returned (flagV (flagsK k ax s.data.toList)) ∧ Below w.heap.size w w' := by
  have HV := hide (fun W => refValue_any k s W hs)
  rw [hN, opt_some] at HV
  have HL := hide (fun W (hb : Below w.heap.size w W) => refLeastK_any k v ax W (hv.below hb) hz)
  rw [hL, opt_none] at HL
  have HM := hide (fun W (hb : Below w.heap.size w W) => refMostK_any k v ax W (hv.below hb) hz)
  rw [hM, opt_some] at HM
  have HS := hide (fun W (hb : Below w.heap.size w W) => refStepK_any k v ax W (hv.below hb) hz)
  rw [hS, opt_none] at HS
  have E : Hid (flagsK k ax s.data.toList = (false, decide (hi < n), false)) := by
    show _ = _
    unfold flagsK
    rw [hN, hL, hM, hS]
    show flagsG k n none (some hi) none (baseK k ax) = _
    unfold flagsG
    rw [if_neg (show ¬ turnG k none (some hi) = true from by rw [show turnG k none (some hi) = false from turn_left k _]; decide)]
    rfl
  obtain ⟨p, c, rfl, _⟩ := hv
  have k11 : (k == 11) = false := by exact beq_eq_false_iff_ne.2 hk
  clear hN hs hz hL hM hS
  have B0 : Hid (Below w.heap.size w (w.alloc (.cells #[.bool false, .bool false, .bool false] 31))) := (Below.refl _ w).alloc (Nat.le_refl _) _
  have N0 := hide (Bk.new w [.bool false, .bool false, .bool false] 31)
  go_enter Tryz.func15, Tryz.ntmps15
  go_wp2_with fail
  generalize w.alloc (.cells #[.bool false, .bool false, .bool false] 31) = w0 at *
  refine (HV.out _).mono ?_
  rintro e w1 ⟨rfl, b1⟩
  have B1 := hide (chain B0.out b1)
  have N1 := hide (N0.out.below b1)
  clear b1 B0 N0 HV
  go_wp2_with fail
  refine (HL.out _ B1.out).mono ?_
  rintro e w2 ⟨rfl, b2⟩
  have B2 := hide (chain B1.out b2)
  have N2 := hide (N1.out.below b2)
  clear b2 B1 N1 HL
  go_wp2_with fail
  refine (HM.out _ B2.out).mono ?_
  rintro e w3 ⟨rfl, b3⟩
  have B3 := hide (chain B2.out b3)
  have N3 := hide (N2.out.below b3)
  clear b3 B2 N2 HM
  go_wp2_with fail
  refine (HS.out _ B3.out).mono ?_
  rintro e w4 ⟨rfl, b4⟩
  have B4 := hide (chain B3.out b4)
  have N4 := hide (N3.out.below b4)
  clear b4 B3 N3 HS
  have BX : Hid (Below w4.heap.size w4 (w4.alloc (.cells #[.bool (false), .bool (decide (hi < n)), .bool false] 31))) := (Below.refl _ w4).alloc (Nat.le_refl _) _
  have WX := hide (Bk.new w4 [.bool (false), .bool (decide (hi < n)), .bool false] 31)
  go_upto_region 8 with fail
  generalize w4.alloc (.cells #[.bool (false), .bool (decide (hi < n)), .bool false] 31) = x4 at *
  have NX := hide (N4.out.below BX.out)
  have B5 := hide (chain B4.out BX.out)
  have lt4 : w.heap.size < w4.heap.size := N4.out.lt
  have ne4 : w.heap.size ≠ w4.heap.size := by omega
  have ne5 : ¬ w4.heap.size = w.heap.size := by omega
  clear N4 BX
  have B6 := B5
  have N6 := NX
  have W6 := WX
  clear B5 NX WX
  have r0 := N6.out.cell 0 rfl
  have r1 := N6.out.cell 1 rfl
  have r2 := N6.out.cell 2 rfl
  have g0 := N6.out.free 0
  have g1 := N6.out.free 1
  have g2 := N6.out.free 2
  have x0 := W6.out.cell 0 rfl
  have x1 := W6.out.cell 1 rfl
  have x2 := W6.out.cell 2 rfl
  have y0 := W6.out.free 0
  have y1 := W6.out.free 1
  have y2 := W6.out.free 2
  go_wp2_with fail
  refine bodyPost_ret (v := .agg #[.bool (false), .bool (decide (hi < n)), .bool (false)]) (by simp [results, go_sem, r0, r1, r2]) rfl ?_
  refine ⟨by rw [E.out]; rfl, ?_⟩
  exact ((((B6.out.setCell (Nat.le_of_lt lt4) _).setCell (Nat.le_refl _) _).setCell (Nat.le_refl _) _).setCell (Nat.le_refl _) _)

set_option maxHeartbeats 8000000 in
set_option maxRecDepth 100000 in
theorem refFlags_010y (k : Int) (v : Value) (ax : List (ByteArray × ByteArray)) (s : ByteArray) (w : World) (hv : AttrsV w v ax) (hz : AxOK ax) (hs : s.size ≤ 100000) {n hi : Int} (hN : numK k s.data.toList = some n) (hL : leastK k ax = none) (hM : mostK k ax = some hi) (hS : stepK k ax = none) (hk : k = 11) :
    Calls Tryz.prog 15 #[.int .i64 k, v, .string s] w fun e w' => e = .returned (flagV (flagsK k ax s.data.toList)) ∧ Below w.heap.size w w' := by
  have HV := hide (fun W => refValue_any k s W hs)
  rw [hN, opt_some] at HV
  have HL := hide (fun W (hb : Below w.heap.size w W) => refLeastK_any k v ax W (hv.below hb) hz)
  rw [hL, opt_none] at HL
  have HM := hide (fun W (hb : Below w.heap.size w W) => refMostK_any k v ax W (hv.below hb) hz)
  rw [hM, opt_some] at HM
  have HS := hide (fun W (hb : Below w.heap.size w W) => refStepK_any k v ax W (hv.below hb) hz)
  rw [hS, opt_none] at HS
  have E : Hid (flagsK k ax s.data.toList = (false, decide (hi < n), false)) := by
    show _ = _
    unfold flagsK
    rw [hN, hL, hM, hS]
    show flagsG k n none (some hi) none (baseK k ax) = _
    unfold flagsG
    rw [if_neg (show ¬ turnG k none (some hi) = true from by rw [show turnG k none (some hi) = false from turn_left k _]; decide)]
    rfl
  obtain ⟨p, c, rfl, _⟩ := hv
  have k11 : (k == 11) = true := by rw [hk]; rfl
  clear hN hs hz hL hM hS
  have B0 : Hid (Below w.heap.size w (w.alloc (.cells #[.bool false, .bool false, .bool false] 31))) := (Below.refl _ w).alloc (Nat.le_refl _) _
  have N0 := hide (Bk.new w [.bool false, .bool false, .bool false] 31)
  subst hk
  go_enter Tryz.func15, Tryz.ntmps15
  go_wp2_with fail
  generalize w.alloc (.cells #[.bool false, .bool false, .bool false] 31) = w0 at *
  refine (HV.out _).mono ?_
  rintro e w1 ⟨rfl, b1⟩
  have B1 := hide (chain B0.out b1)
  have N1 := hide (N0.out.below b1)
  clear b1 B0 N0 HV
  go_wp2_with fail
  refine (HL.out _ B1.out).mono ?_
  rintro e w2 ⟨rfl, b2⟩
  have B2 := hide (chain B1.out b2)
  have N2 := hide (N1.out.below b2)
  clear b2 B1 N1 HL
  go_wp2_with fail
  refine (HM.out _ B2.out).mono ?_
  rintro e w3 ⟨rfl, b3⟩
  have B3 := hide (chain B2.out b3)
  have N3 := hide (N2.out.below b3)
  clear b3 B2 N2 HM
  go_wp2_with fail
  refine (HS.out _ B3.out).mono ?_
  rintro e w4 ⟨rfl, b4⟩
  have B4 := hide (chain B3.out b4)
  have N4 := hide (N3.out.below b4)
  clear b4 B3 N3 HS
  have BX : Hid (Below w4.heap.size w4 (w4.alloc (.cells #[.bool (false), .bool (decide (hi < n)), .bool false] 31))) := (Below.refl _ w4).alloc (Nat.le_refl _) _
  have WX := hide (Bk.new w4 [.bool (false), .bool (decide (hi < n)), .bool false] 31)
  go_upto_region 8 with fail
  generalize w4.alloc (.cells #[.bool (false), .bool (decide (hi < n)), .bool false] 31) = x4 at *
  have NX := hide (N4.out.below BX.out)
  have B5 := hide (chain B4.out BX.out)
  have lt4 : w.heap.size < w4.heap.size := N4.out.lt
  have ne4 : w.heap.size ≠ w4.heap.size := by omega
  have ne5 : ¬ w4.heap.size = w.heap.size := by omega
  clear N4 BX
  have B6 := B5
  have N6 := NX
  have W6 := WX
  clear B5 NX WX
  have r0 := N6.out.cell 0 rfl
  have r1 := N6.out.cell 1 rfl
  have r2 := N6.out.cell 2 rfl
  have g0 := N6.out.free 0
  have g1 := N6.out.free 1
  have g2 := N6.out.free 2
  have x0 := W6.out.cell 0 rfl
  have x1 := W6.out.cell 1 rfl
  have x2 := W6.out.cell 2 rfl
  have y0 := W6.out.free 0
  have y1 := W6.out.free 1
  have y2 := W6.out.free 2
  go_wp2_with fail
  refine bodyPost_ret (v := .agg #[.bool (false), .bool (decide (hi < n)), .bool (false)]) (by simp [results, go_sem, r0, r1, r2]) rfl ?_
  refine ⟨by rw [E.out]; rfl, ?_⟩
  exact ((((B6.out.setCell (Nat.le_of_lt lt4) _).setCell (Nat.le_refl _) _).setCell (Nat.le_refl _) _).setCell (Nat.le_refl _) _)

set_option maxHeartbeats 8000000 in
set_option maxRecDepth 100000 in
theorem refFlags_100n (k : Int) (v : Value) (ax : List (ByteArray × ByteArray)) (s : ByteArray) (w : World) (hv : AttrsV w v ax) (hz : AxOK ax) (hs : s.size ≤ 100000) {n lo : Int} (hN : numK k s.data.toList = some n) (hL : leastK k ax = some lo) (hM : mostK k ax = none) (hS : stepK k ax = none) (hk : ¬ k = 11) :
    Calls Tryz.prog 15 #[.int .i64 k, v, .string s] w fun e w' => e = .returned (flagV (flagsK k ax s.data.toList)) ∧ Below w.heap.size w w' := by
  have HV := hide (fun W => refValue_any k s W hs)
  rw [hN, opt_some] at HV
  have HL := hide (fun W (hb : Below w.heap.size w W) => refLeastK_any k v ax W (hv.below hb) hz)
  rw [hL, opt_some] at HL
  have HM := hide (fun W (hb : Below w.heap.size w W) => refMostK_any k v ax W (hv.below hb) hz)
  rw [hM, opt_none] at HM
  have HS := hide (fun W (hb : Below w.heap.size w W) => refStepK_any k v ax W (hv.below hb) hz)
  rw [hS, opt_none] at HS
  have E : Hid (flagsK k ax s.data.toList = (decide (n < lo), false, false)) := by
    show _ = _
    unfold flagsK
    rw [hN, hL, hM, hS]
    show flagsG k n (some lo) none none (baseK k ax) = _
    unfold flagsG
    rw [if_neg (show ¬ turnG k (some lo) none = true from by rw [show turnG k (some lo) none = false from turn_right k _]; decide)]
    rfl
  obtain ⟨p, c, rfl, _⟩ := hv
  have k11 : (k == 11) = false := by exact beq_eq_false_iff_ne.2 hk
  clear hN hs hz hL hM hS
  have B0 : Hid (Below w.heap.size w (w.alloc (.cells #[.bool false, .bool false, .bool false] 31))) := (Below.refl _ w).alloc (Nat.le_refl _) _
  have N0 := hide (Bk.new w [.bool false, .bool false, .bool false] 31)
  go_enter Tryz.func15, Tryz.ntmps15
  go_wp2_with fail
  generalize w.alloc (.cells #[.bool false, .bool false, .bool false] 31) = w0 at *
  refine (HV.out _).mono ?_
  rintro e w1 ⟨rfl, b1⟩
  have B1 := hide (chain B0.out b1)
  have N1 := hide (N0.out.below b1)
  clear b1 B0 N0 HV
  go_wp2_with fail
  refine (HL.out _ B1.out).mono ?_
  rintro e w2 ⟨rfl, b2⟩
  have B2 := hide (chain B1.out b2)
  have N2 := hide (N1.out.below b2)
  clear b2 B1 N1 HL
  go_wp2_with fail
  refine (HM.out _ B2.out).mono ?_
  rintro e w3 ⟨rfl, b3⟩
  have B3 := hide (chain B2.out b3)
  have N3 := hide (N2.out.below b3)
  clear b3 B2 N2 HM
  go_wp2_with fail
  refine (HS.out _ B3.out).mono ?_
  rintro e w4 ⟨rfl, b4⟩
  have B4 := hide (chain B3.out b4)
  have N4 := hide (N3.out.below b4)
  clear b4 B3 N3 HS
  have BX : Hid (Below w4.heap.size w4 (w4.alloc (.cells #[.bool (decide (n < lo)), .bool (false), .bool false] 31))) := (Below.refl _ w4).alloc (Nat.le_refl _) _
  have WX := hide (Bk.new w4 [.bool (decide (n < lo)), .bool (false), .bool false] 31)
  go_upto_region 8 with fail
  generalize w4.alloc (.cells #[.bool (decide (n < lo)), .bool (false), .bool false] 31) = x4 at *
  have NX := hide (N4.out.below BX.out)
  have B5 := hide (chain B4.out BX.out)
  have lt4 : w.heap.size < w4.heap.size := N4.out.lt
  have ne4 : w.heap.size ≠ w4.heap.size := by omega
  have ne5 : ¬ w4.heap.size = w.heap.size := by omega
  clear N4 BX
  have B6 := B5
  have N6 := NX
  have W6 := WX
  clear B5 NX WX
  have r0 := N6.out.cell 0 rfl
  have r1 := N6.out.cell 1 rfl
  have r2 := N6.out.cell 2 rfl
  have g0 := N6.out.free 0
  have g1 := N6.out.free 1
  have g2 := N6.out.free 2
  have x0 := W6.out.cell 0 rfl
  have x1 := W6.out.cell 1 rfl
  have x2 := W6.out.cell 2 rfl
  have y0 := W6.out.free 0
  have y1 := W6.out.free 1
  have y2 := W6.out.free 2
  go_wp2_with fail
  refine bodyPost_ret (v := .agg #[.bool (decide (n < lo)), .bool (false), .bool (false)]) (by simp [results, go_sem, r0, r1, r2]) rfl ?_
  refine ⟨by rw [E.out]; rfl, ?_⟩
  exact ((((B6.out.setCell (Nat.le_of_lt lt4) _).setCell (Nat.le_refl _) _).setCell (Nat.le_refl _) _).setCell (Nat.le_refl _) _)

set_option maxHeartbeats 8000000 in
set_option maxRecDepth 100000 in
theorem refFlags_100y (k : Int) (v : Value) (ax : List (ByteArray × ByteArray)) (s : ByteArray) (w : World) (hv : AttrsV w v ax) (hz : AxOK ax) (hs : s.size ≤ 100000) {n lo : Int} (hN : numK k s.data.toList = some n) (hL : leastK k ax = some lo) (hM : mostK k ax = none) (hS : stepK k ax = none) (hk : k = 11) :
    Calls Tryz.prog 15 #[.int .i64 k, v, .string s] w fun e w' => e = .returned (flagV (flagsK k ax s.data.toList)) ∧ Below w.heap.size w w' := by
  have HV := hide (fun W => refValue_any k s W hs)
  rw [hN, opt_some] at HV
  have HL := hide (fun W (hb : Below w.heap.size w W) => refLeastK_any k v ax W (hv.below hb) hz)
  rw [hL, opt_some] at HL
  have HM := hide (fun W (hb : Below w.heap.size w W) => refMostK_any k v ax W (hv.below hb) hz)
  rw [hM, opt_none] at HM
  have HS := hide (fun W (hb : Below w.heap.size w W) => refStepK_any k v ax W (hv.below hb) hz)
  rw [hS, opt_none] at HS
  have E : Hid (flagsK k ax s.data.toList = (decide (n < lo), false, false)) := by
    show _ = _
    unfold flagsK
    rw [hN, hL, hM, hS]
    show flagsG k n (some lo) none none (baseK k ax) = _
    unfold flagsG
    rw [if_neg (show ¬ turnG k (some lo) none = true from by rw [show turnG k (some lo) none = false from turn_right k _]; decide)]
    rfl
  obtain ⟨p, c, rfl, _⟩ := hv
  have k11 : (k == 11) = true := by rw [hk]; rfl
  clear hN hs hz hL hM hS
  have B0 : Hid (Below w.heap.size w (w.alloc (.cells #[.bool false, .bool false, .bool false] 31))) := (Below.refl _ w).alloc (Nat.le_refl _) _
  have N0 := hide (Bk.new w [.bool false, .bool false, .bool false] 31)
  subst hk
  go_enter Tryz.func15, Tryz.ntmps15
  go_wp2_with fail
  generalize w.alloc (.cells #[.bool false, .bool false, .bool false] 31) = w0 at *
  refine (HV.out _).mono ?_
  rintro e w1 ⟨rfl, b1⟩
  have B1 := hide (chain B0.out b1)
  have N1 := hide (N0.out.below b1)
  clear b1 B0 N0 HV
  go_wp2_with fail
  refine (HL.out _ B1.out).mono ?_
  rintro e w2 ⟨rfl, b2⟩
  have B2 := hide (chain B1.out b2)
  have N2 := hide (N1.out.below b2)
  clear b2 B1 N1 HL
  go_wp2_with fail
  refine (HM.out _ B2.out).mono ?_
  rintro e w3 ⟨rfl, b3⟩
  have B3 := hide (chain B2.out b3)
  have N3 := hide (N2.out.below b3)
  clear b3 B2 N2 HM
  go_wp2_with fail
  refine (HS.out _ B3.out).mono ?_
  rintro e w4 ⟨rfl, b4⟩
  have B4 := hide (chain B3.out b4)
  have N4 := hide (N3.out.below b4)
  clear b4 B3 N3 HS
  have BX : Hid (Below w4.heap.size w4 (w4.alloc (.cells #[.bool (decide (n < lo)), .bool (false), .bool false] 31))) := (Below.refl _ w4).alloc (Nat.le_refl _) _
  have WX := hide (Bk.new w4 [.bool (decide (n < lo)), .bool (false), .bool false] 31)
  go_upto_region 8 with fail
  generalize w4.alloc (.cells #[.bool (decide (n < lo)), .bool (false), .bool false] 31) = x4 at *
  have NX := hide (N4.out.below BX.out)
  have B5 := hide (chain B4.out BX.out)
  have lt4 : w.heap.size < w4.heap.size := N4.out.lt
  have ne4 : w.heap.size ≠ w4.heap.size := by omega
  have ne5 : ¬ w4.heap.size = w.heap.size := by omega
  clear N4 BX
  have B6 := B5
  have N6 := NX
  have W6 := WX
  clear B5 NX WX
  have r0 := N6.out.cell 0 rfl
  have r1 := N6.out.cell 1 rfl
  have r2 := N6.out.cell 2 rfl
  have g0 := N6.out.free 0
  have g1 := N6.out.free 1
  have g2 := N6.out.free 2
  have x0 := W6.out.cell 0 rfl
  have x1 := W6.out.cell 1 rfl
  have x2 := W6.out.cell 2 rfl
  have y0 := W6.out.free 0
  have y1 := W6.out.free 1
  have y2 := W6.out.free 2
  go_wp2_with fail
  refine bodyPost_ret (v := .agg #[.bool (decide (n < lo)), .bool (false), .bool (false)]) (by simp [results, go_sem, r0, r1, r2]) rfl ?_
  refine ⟨by rw [E.out]; rfl, ?_⟩
  exact ((((B6.out.setCell (Nat.le_of_lt lt4) _).setCell (Nat.le_refl _) _).setCell (Nat.le_refl _) _).setCell (Nat.le_refl _) _)

set_option maxHeartbeats 8000000 in
set_option maxRecDepth 100000 in
theorem refFlags_110n (k : Int) (v : Value) (ax : List (ByteArray × ByteArray)) (s : ByteArray) (w : World) (hv : AttrsV w v ax) (hz : AxOK ax) (hs : s.size ≤ 100000) {n lo hi : Int} (hN : numK k s.data.toList = some n) (hL : leastK k ax = some lo) (hM : mostK k ax = some hi) (hS : stepK k ax = none) (hk : ¬ k = 11) :
    Calls Tryz.prog 15 #[.int .i64 k, v, .string s] w fun e w' => e = .returned (flagV (flagsK k ax s.data.toList)) ∧ Below w.heap.size w w' := by
  have HV := hide (fun W => refValue_any k s W hs)
  rw [hN, opt_some] at HV
  have HL := hide (fun W (hb : Below w.heap.size w W) => refLeastK_any k v ax W (hv.below hb) hz)
  rw [hL, opt_some] at HL
  have HM := hide (fun W (hb : Below w.heap.size w W) => refMostK_any k v ax W (hv.below hb) hz)
  rw [hM, opt_some] at HM
  have HS := hide (fun W (hb : Below w.heap.size w W) => refStepK_any k v ax W (hv.below hb) hz)
  rw [hS, opt_none] at HS
  have E : Hid (flagsK k ax s.data.toList = (decide (n < lo), decide (hi < n), false)) := by
    show _ = _
    unfold flagsK
    rw [hN, hL, hM, hS]
    show flagsG k n (some lo) (some hi) none (baseK k ax) = _
    unfold flagsG
    rw [if_neg (show ¬ turnG k (some lo) (some hi) = true from by rw [show turnG k (some lo) (some hi) = false from by unfold turnG; rw [beq_eq_false_iff_ne.2 hk]; rfl]; decide)]
    rfl
  obtain ⟨p, c, rfl, _⟩ := hv
  have k11 : (k == 11) = false := by exact beq_eq_false_iff_ne.2 hk
  clear hN hs hz hL hM hS
  have B0 : Hid (Below w.heap.size w (w.alloc (.cells #[.bool false, .bool false, .bool false] 31))) := (Below.refl _ w).alloc (Nat.le_refl _) _
  have N0 := hide (Bk.new w [.bool false, .bool false, .bool false] 31)
  go_enter Tryz.func15, Tryz.ntmps15
  go_wp2_with fail
  generalize w.alloc (.cells #[.bool false, .bool false, .bool false] 31) = w0 at *
  refine (HV.out _).mono ?_
  rintro e w1 ⟨rfl, b1⟩
  have B1 := hide (chain B0.out b1)
  have N1 := hide (N0.out.below b1)
  clear b1 B0 N0 HV
  go_wp2_with fail
  refine (HL.out _ B1.out).mono ?_
  rintro e w2 ⟨rfl, b2⟩
  have B2 := hide (chain B1.out b2)
  have N2 := hide (N1.out.below b2)
  clear b2 B1 N1 HL
  go_wp2_with fail
  refine (HM.out _ B2.out).mono ?_
  rintro e w3 ⟨rfl, b3⟩
  have B3 := hide (chain B2.out b3)
  have N3 := hide (N2.out.below b3)
  clear b3 B2 N2 HM
  go_wp2_with fail
  refine (HS.out _ B3.out).mono ?_
  rintro e w4 ⟨rfl, b4⟩
  have B4 := hide (chain B3.out b4)
  have N4 := hide (N3.out.below b4)
  clear b4 B3 N3 HS
  have BX : Hid (Below w4.heap.size w4 (w4.alloc (.cells #[.bool (decide (n < lo)), .bool (decide (hi < n)), .bool false] 31))) := (Below.refl _ w4).alloc (Nat.le_refl _) _
  have WX := hide (Bk.new w4 [.bool (decide (n < lo)), .bool (decide (hi < n)), .bool false] 31)
  go_upto_region 8 with fail
  generalize w4.alloc (.cells #[.bool (decide (n < lo)), .bool (decide (hi < n)), .bool false] 31) = x4 at *
  have NX := hide (N4.out.below BX.out)
  have B5 := hide (chain B4.out BX.out)
  have lt4 : w.heap.size < w4.heap.size := N4.out.lt
  have ne4 : w.heap.size ≠ w4.heap.size := by omega
  have ne5 : ¬ w4.heap.size = w.heap.size := by omega
  clear N4 BX
  have B6 := B5
  have N6 := NX
  have W6 := WX
  clear B5 NX WX
  have r0 := N6.out.cell 0 rfl
  have r1 := N6.out.cell 1 rfl
  have r2 := N6.out.cell 2 rfl
  have g0 := N6.out.free 0
  have g1 := N6.out.free 1
  have g2 := N6.out.free 2
  have x0 := W6.out.cell 0 rfl
  have x1 := W6.out.cell 1 rfl
  have x2 := W6.out.cell 2 rfl
  have y0 := W6.out.free 0
  have y1 := W6.out.free 1
  have y2 := W6.out.free 2
  go_wp2_with fail
  refine bodyPost_ret (v := .agg #[.bool (decide (n < lo)), .bool (decide (hi < n)), .bool (false)]) (by simp [results, go_sem, r0, r1, r2]) rfl ?_
  refine ⟨by rw [E.out]; rfl, ?_⟩
  exact ((((B6.out.setCell (Nat.le_of_lt lt4) _).setCell (Nat.le_refl _) _).setCell (Nat.le_refl _) _).setCell (Nat.le_refl _) _)

set_option maxHeartbeats 8000000 in
set_option maxRecDepth 100000 in
theorem refFlags_110yf (k : Int) (v : Value) (ax : List (ByteArray × ByteArray)) (s : ByteArray) (w : World) (hv : AttrsV w v ax) (hz : AxOK ax) (hs : s.size ≤ 100000) {n lo hi : Int} (hN : numK k s.data.toList = some n) (hL : leastK k ax = some lo) (hM : mostK k ax = some hi) (hS : stepK k ax = none) (hk : k = 11) (hlt : ¬ hi < lo) :
    Calls Tryz.prog 15 #[.int .i64 k, v, .string s] w fun e w' => e = .returned (flagV (flagsK k ax s.data.toList)) ∧ Below w.heap.size w w' := by
  have HV := hide (fun W => refValue_any k s W hs)
  rw [hN, opt_some] at HV
  have HL := hide (fun W (hb : Below w.heap.size w W) => refLeastK_any k v ax W (hv.below hb) hz)
  rw [hL, opt_some] at HL
  have HM := hide (fun W (hb : Below w.heap.size w W) => refMostK_any k v ax W (hv.below hb) hz)
  rw [hM, opt_some] at HM
  have HS := hide (fun W (hb : Below w.heap.size w W) => refStepK_any k v ax W (hv.below hb) hz)
  rw [hS, opt_none] at HS
  have E : Hid (flagsK k ax s.data.toList = (decide (n < lo), decide (hi < n), false)) := by
    show _ = _
    unfold flagsK
    rw [hN, hL, hM, hS]
    show flagsG k n (some lo) (some hi) none (baseK k ax) = _
    unfold flagsG
    rw [if_neg (show ¬ turnG k (some lo) (some hi) = true from by rw [show turnG k (some lo) (some hi) = false from by subst hk; show (true && (true && (true && decide (hi < lo)))) = false; rw [decide_eq_false hlt]; rfl]; decide)]
    rfl
  obtain ⟨p, c, rfl, _⟩ := hv
  have k11 : (k == 11) = true := by rw [hk]; rfl
  have d1 : decide (hi < lo) = false := decide_eq_false hlt
  clear hN hs hz hL hM hS
  have B0 : Hid (Below w.heap.size w (w.alloc (.cells #[.bool false, .bool false, .bool false] 31))) := (Below.refl _ w).alloc (Nat.le_refl _) _
  have N0 := hide (Bk.new w [.bool false, .bool false, .bool false] 31)
  subst hk
  go_enter Tryz.func15, Tryz.ntmps15
  go_wp2_with fail
  generalize w.alloc (.cells #[.bool false, .bool false, .bool false] 31) = w0 at *
  refine (HV.out _).mono ?_
  rintro e w1 ⟨rfl, b1⟩
  have B1 := hide (chain B0.out b1)
  have N1 := hide (N0.out.below b1)
  clear b1 B0 N0 HV
  go_wp2_with fail
  refine (HL.out _ B1.out).mono ?_
  rintro e w2 ⟨rfl, b2⟩
  have B2 := hide (chain B1.out b2)
  have N2 := hide (N1.out.below b2)
  clear b2 B1 N1 HL
  go_wp2_with fail
  refine (HM.out _ B2.out).mono ?_
  rintro e w3 ⟨rfl, b3⟩
  have B3 := hide (chain B2.out b3)
  have N3 := hide (N2.out.below b3)
  clear b3 B2 N2 HM
  go_wp2_with fail
  refine (HS.out _ B3.out).mono ?_
  rintro e w4 ⟨rfl, b4⟩
  have B4 := hide (chain B3.out b4)
  have N4 := hide (N3.out.below b4)
  clear b4 B3 N3 HS
  have BX : Hid (Below w4.heap.size w4 (w4.alloc (.cells #[.bool (decide (n < lo)), .bool (decide (hi < n)), .bool false] 31))) := (Below.refl _ w4).alloc (Nat.le_refl _) _
  have WX := hide (Bk.new w4 [.bool (decide (n < lo)), .bool (decide (hi < n)), .bool false] 31)
  go_upto_region 8 with fail
  generalize w4.alloc (.cells #[.bool (decide (n < lo)), .bool (decide (hi < n)), .bool false] 31) = x4 at *
  have NX := hide (N4.out.below BX.out)
  have B5 := hide (chain B4.out BX.out)
  have lt4 : w.heap.size < w4.heap.size := N4.out.lt
  have ne4 : w.heap.size ≠ w4.heap.size := by omega
  have ne5 : ¬ w4.heap.size = w.heap.size := by omega
  clear N4 BX
  have B6 := B5
  have N6 := NX
  have W6 := WX
  clear B5 NX WX
  have r0 := N6.out.cell 0 rfl
  have r1 := N6.out.cell 1 rfl
  have r2 := N6.out.cell 2 rfl
  have g0 := N6.out.free 0
  have g1 := N6.out.free 1
  have g2 := N6.out.free 2
  have x0 := W6.out.cell 0 rfl
  have x1 := W6.out.cell 1 rfl
  have x2 := W6.out.cell 2 rfl
  have y0 := W6.out.free 0
  have y1 := W6.out.free 1
  have y2 := W6.out.free 2
  go_wp2_with fail
  refine bodyPost_ret (v := .agg #[.bool (decide (n < lo)), .bool (decide (hi < n)), .bool (false)]) (by simp [results, go_sem, r0, r1, r2]) rfl ?_
  refine ⟨by rw [E.out]; rfl, ?_⟩
  exact ((((B6.out.setCell (Nat.le_of_lt lt4) _).setCell (Nat.le_refl _) _).setCell (Nat.le_refl _) _).setCell (Nat.le_refl _) _)

set_option maxHeartbeats 8000000 in
set_option maxRecDepth 100000 in
theorem refFlags_110yt01 (k : Int) (v : Value) (ax : List (ByteArray × ByteArray)) (s : ByteArray) (w : World) (hv : AttrsV w v ax) (hz : AxOK ax) (hs : s.size ≤ 100000) {n lo hi : Int} (hN : numK k s.data.toList = some n) (hL : leastK k ax = some lo) (hM : mostK k ax = some hi) (hS : stepK k ax = none) (hk : k = 11) (hlt : hi < lo) (ha : ¬ hi < n) (hb : n < lo) :
    Calls Tryz.prog 15 #[.int .i64 k, v, .string s] w fun e w' => e = .returned (flagV (flagsK k ax s.data.toList)) ∧ Below w.heap.size w w' := by
  have HV := hide (fun W => refValue_any k s W hs)
  rw [hN, opt_some] at HV
  have HL := hide (fun W (hb : Below w.heap.size w W) => refLeastK_any k v ax W (hv.below hb) hz)
  rw [hL, opt_some] at HL
  have HM := hide (fun W (hb : Below w.heap.size w W) => refMostK_any k v ax W (hv.below hb) hz)
  rw [hM, opt_some] at HM
  have HS := hide (fun W (hb : Below w.heap.size w W) => refStepK_any k v ax W (hv.below hb) hz)
  rw [hS, opt_none] at HS
  have E : Hid (flagsK k ax s.data.toList = (false, false, false)) := by
    show _ = _
    unfold flagsK
    rw [hN, hL, hM, hS]
    show flagsG k n (some lo) (some hi) none (baseK k ax) = _
    unfold flagsG
    rw [if_pos (show turnG k (some lo) (some hi) = true from by subst hk; show (true && (true && (true && decide (hi < lo)))) = true; rw [decide_eq_true hlt]; rfl)]
    show (decide (hi < n) && decide (n < lo), decide (hi < n) && decide (n < lo), _) = _
    rw [decide_eq_false ha, decide_eq_true hb]; rfl
  obtain ⟨p, c, rfl, _⟩ := hv
  have k11 : (k == 11) = true := by rw [hk]; rfl
  have d1 : decide (hi < lo) = true := decide_eq_true hlt
  have d2 : decide (hi < n) = false := decide_eq_false ha
  have d3 : decide (n < lo) = true := decide_eq_true hb
  clear hN hs hz hL hM hS
  have B0 : Hid (Below w.heap.size w (w.alloc (.cells #[.bool false, .bool false, .bool false] 31))) := (Below.refl _ w).alloc (Nat.le_refl _) _
  have N0 := hide (Bk.new w [.bool false, .bool false, .bool false] 31)
  subst hk
  go_enter Tryz.func15, Tryz.ntmps15
  go_wp2_with fail
  generalize w.alloc (.cells #[.bool false, .bool false, .bool false] 31) = w0 at *
  refine (HV.out _).mono ?_
  rintro e w1 ⟨rfl, b1⟩
  have B1 := hide (chain B0.out b1)
  have N1 := hide (N0.out.below b1)
  clear b1 B0 N0 HV
  go_wp2_with fail
  refine (HL.out _ B1.out).mono ?_
  rintro e w2 ⟨rfl, b2⟩
  have B2 := hide (chain B1.out b2)
  have N2 := hide (N1.out.below b2)
  clear b2 B1 N1 HL
  go_wp2_with fail
  refine (HM.out _ B2.out).mono ?_
  rintro e w3 ⟨rfl, b3⟩
  have B3 := hide (chain B2.out b3)
  have N3 := hide (N2.out.below b3)
  clear b3 B2 N2 HM
  go_wp2_with fail
  refine (HS.out _ B3.out).mono ?_
  rintro e w4 ⟨rfl, b4⟩
  have B4 := hide (chain B3.out b4)
  have N4 := hide (N3.out.below b4)
  clear b4 B3 N3 HS
  have BX : Hid (Below w4.heap.size w4 (w4.alloc (.cells #[.bool (true), .bool (false), .bool false] 31))) := (Below.refl _ w4).alloc (Nat.le_refl _) _
  have WX := hide (Bk.new w4 [.bool (true), .bool (false), .bool false] 31)
  go_upto_region 8 with fail
  generalize w4.alloc (.cells #[.bool (true), .bool (false), .bool false] 31) = x4 at *
  have NX := hide (N4.out.below BX.out)
  have B5 := hide (chain B4.out BX.out)
  have lt4 : w.heap.size < w4.heap.size := N4.out.lt
  have ne4 : w.heap.size ≠ w4.heap.size := by omega
  have ne5 : ¬ w4.heap.size = w.heap.size := by omega
  clear N4 BX
  have B6 := B5
  have N6 := NX
  have W6 := WX
  clear B5 NX WX
  have r0 := N6.out.cell 0 rfl
  have r1 := N6.out.cell 1 rfl
  have r2 := N6.out.cell 2 rfl
  have g0 := N6.out.free 0
  have g1 := N6.out.free 1
  have g2 := N6.out.free 2
  have x0 := W6.out.cell 0 rfl
  have x1 := W6.out.cell 1 rfl
  have x2 := W6.out.cell 2 rfl
  have y0 := W6.out.free 0
  have y1 := W6.out.free 1
  have y2 := W6.out.free 2
  go_wp2_with fail
  refine bodyPost_ret (v := .agg #[.bool (false), .bool (false), .bool (false)]) (by simp [results, go_sem, r0, r1, r2]) rfl ?_
  refine ⟨by rw [E.out]; rfl, ?_⟩
  exact ((((((B6.out.setCell (Nat.le_of_lt lt4) _).setCell (Nat.le_of_lt lt4) _).setCell (Nat.le_of_lt lt4) _).setCell (Nat.le_refl _) _).setCell (Nat.le_refl _) _).setCell (Nat.le_refl _) _)

set_option maxHeartbeats 8000000 in
set_option maxRecDepth 100000 in
theorem refFlags_110yt10 (k : Int) (v : Value) (ax : List (ByteArray × ByteArray)) (s : ByteArray) (w : World) (hv : AttrsV w v ax) (hz : AxOK ax) (hs : s.size ≤ 100000) {n lo hi : Int} (hN : numK k s.data.toList = some n) (hL : leastK k ax = some lo) (hM : mostK k ax = some hi) (hS : stepK k ax = none) (hk : k = 11) (hlt : hi < lo) (ha : hi < n) (hb : ¬ n < lo) :
    Calls Tryz.prog 15 #[.int .i64 k, v, .string s] w fun e w' => e = .returned (flagV (flagsK k ax s.data.toList)) ∧ Below w.heap.size w w' := by
  have HV := hide (fun W => refValue_any k s W hs)
  rw [hN, opt_some] at HV
  have HL := hide (fun W (hb : Below w.heap.size w W) => refLeastK_any k v ax W (hv.below hb) hz)
  rw [hL, opt_some] at HL
  have HM := hide (fun W (hb : Below w.heap.size w W) => refMostK_any k v ax W (hv.below hb) hz)
  rw [hM, opt_some] at HM
  have HS := hide (fun W (hb : Below w.heap.size w W) => refStepK_any k v ax W (hv.below hb) hz)
  rw [hS, opt_none] at HS
  have E : Hid (flagsK k ax s.data.toList = (false, false, false)) := by
    show _ = _
    unfold flagsK
    rw [hN, hL, hM, hS]
    show flagsG k n (some lo) (some hi) none (baseK k ax) = _
    unfold flagsG
    rw [if_pos (show turnG k (some lo) (some hi) = true from by subst hk; show (true && (true && (true && decide (hi < lo)))) = true; rw [decide_eq_true hlt]; rfl)]
    show (decide (hi < n) && decide (n < lo), decide (hi < n) && decide (n < lo), _) = _
    rw [decide_eq_true ha, decide_eq_false hb]; rfl
  obtain ⟨p, c, rfl, _⟩ := hv
  have k11 : (k == 11) = true := by rw [hk]; rfl
  have d1 : decide (hi < lo) = true := decide_eq_true hlt
  have d2 : decide (hi < n) = true := decide_eq_true ha
  have d3 : decide (n < lo) = false := decide_eq_false hb
  clear hN hs hz hL hM hS
  have B0 : Hid (Below w.heap.size w (w.alloc (.cells #[.bool false, .bool false, .bool false] 31))) := (Below.refl _ w).alloc (Nat.le_refl _) _
  have N0 := hide (Bk.new w [.bool false, .bool false, .bool false] 31)
  subst hk
  go_enter Tryz.func15, Tryz.ntmps15
  go_wp2_with fail
  generalize w.alloc (.cells #[.bool false, .bool false, .bool false] 31) = w0 at *
  refine (HV.out _).mono ?_
  rintro e w1 ⟨rfl, b1⟩
  have B1 := hide (chain B0.out b1)
  have N1 := hide (N0.out.below b1)
  clear b1 B0 N0 HV
  go_wp2_with fail
  refine (HL.out _ B1.out).mono ?_
  rintro e w2 ⟨rfl, b2⟩
  have B2 := hide (chain B1.out b2)
  have N2 := hide (N1.out.below b2)
  clear b2 B1 N1 HL
  go_wp2_with fail
  refine (HM.out _ B2.out).mono ?_
  rintro e w3 ⟨rfl, b3⟩
  have B3 := hide (chain B2.out b3)
  have N3 := hide (N2.out.below b3)
  clear b3 B2 N2 HM
  go_wp2_with fail
  refine (HS.out _ B3.out).mono ?_
  rintro e w4 ⟨rfl, b4⟩
  have B4 := hide (chain B3.out b4)
  have N4 := hide (N3.out.below b4)
  clear b4 B3 N3 HS
  have BX : Hid (Below w4.heap.size w4 (w4.alloc (.cells #[.bool (false), .bool (true), .bool false] 31))) := (Below.refl _ w4).alloc (Nat.le_refl _) _
  have WX := hide (Bk.new w4 [.bool (false), .bool (true), .bool false] 31)
  go_upto_region 8 with fail
  generalize w4.alloc (.cells #[.bool (false), .bool (true), .bool false] 31) = x4 at *
  have NX := hide (N4.out.below BX.out)
  have B5 := hide (chain B4.out BX.out)
  have lt4 : w.heap.size < w4.heap.size := N4.out.lt
  have ne4 : w.heap.size ≠ w4.heap.size := by omega
  have ne5 : ¬ w4.heap.size = w.heap.size := by omega
  clear N4 BX
  have B6 := B5
  have N6 := NX
  have W6 := WX
  clear B5 NX WX
  have r0 := N6.out.cell 0 rfl
  have r1 := N6.out.cell 1 rfl
  have r2 := N6.out.cell 2 rfl
  have g0 := N6.out.free 0
  have g1 := N6.out.free 1
  have g2 := N6.out.free 2
  have x0 := W6.out.cell 0 rfl
  have x1 := W6.out.cell 1 rfl
  have x2 := W6.out.cell 2 rfl
  have y0 := W6.out.free 0
  have y1 := W6.out.free 1
  have y2 := W6.out.free 2
  go_wp2_with fail
  refine bodyPost_ret (v := .agg #[.bool (false), .bool (false), .bool (false)]) (by simp [results, go_sem, r0, r1, r2]) rfl ?_
  refine ⟨by rw [E.out]; rfl, ?_⟩
  exact ((((((B6.out.setCell (Nat.le_of_lt lt4) _).setCell (Nat.le_of_lt lt4) _).setCell (Nat.le_of_lt lt4) _).setCell (Nat.le_refl _) _).setCell (Nat.le_refl _) _).setCell (Nat.le_refl _) _)

set_option maxHeartbeats 8000000 in
set_option maxRecDepth 100000 in
theorem refFlags_110yt11 (k : Int) (v : Value) (ax : List (ByteArray × ByteArray)) (s : ByteArray) (w : World) (hv : AttrsV w v ax) (hz : AxOK ax) (hs : s.size ≤ 100000) {n lo hi : Int} (hN : numK k s.data.toList = some n) (hL : leastK k ax = some lo) (hM : mostK k ax = some hi) (hS : stepK k ax = none) (hk : k = 11) (hlt : hi < lo) (ha : hi < n) (hb : n < lo) :
    Calls Tryz.prog 15 #[.int .i64 k, v, .string s] w fun e w' => e = .returned (flagV (flagsK k ax s.data.toList)) ∧ Below w.heap.size w w' := by
  have HV := hide (fun W => refValue_any k s W hs)
  rw [hN, opt_some] at HV
  have HL := hide (fun W (hb : Below w.heap.size w W) => refLeastK_any k v ax W (hv.below hb) hz)
  rw [hL, opt_some] at HL
  have HM := hide (fun W (hb : Below w.heap.size w W) => refMostK_any k v ax W (hv.below hb) hz)
  rw [hM, opt_some] at HM
  have HS := hide (fun W (hb : Below w.heap.size w W) => refStepK_any k v ax W (hv.below hb) hz)
  rw [hS, opt_none] at HS
  have E : Hid (flagsK k ax s.data.toList = (true, true, false)) := by
    show _ = _
    unfold flagsK
    rw [hN, hL, hM, hS]
    show flagsG k n (some lo) (some hi) none (baseK k ax) = _
    unfold flagsG
    rw [if_pos (show turnG k (some lo) (some hi) = true from by subst hk; show (true && (true && (true && decide (hi < lo)))) = true; rw [decide_eq_true hlt]; rfl)]
    show (decide (hi < n) && decide (n < lo), decide (hi < n) && decide (n < lo), _) = _
    rw [decide_eq_true ha, decide_eq_true hb]; rfl
  obtain ⟨p, c, rfl, _⟩ := hv
  have k11 : (k == 11) = true := by rw [hk]; rfl
  have d1 : decide (hi < lo) = true := decide_eq_true hlt
  have d2 : decide (hi < n) = true := decide_eq_true ha
  have d3 : decide (n < lo) = true := decide_eq_true hb
  clear hN hs hz hL hM hS
  have B0 : Hid (Below w.heap.size w (w.alloc (.cells #[.bool false, .bool false, .bool false] 31))) := (Below.refl _ w).alloc (Nat.le_refl _) _
  have N0 := hide (Bk.new w [.bool false, .bool false, .bool false] 31)
  subst hk
  go_enter Tryz.func15, Tryz.ntmps15
  go_wp2_with fail
  generalize w.alloc (.cells #[.bool false, .bool false, .bool false] 31) = w0 at *
  refine (HV.out _).mono ?_
  rintro e w1 ⟨rfl, b1⟩
  have B1 := hide (chain B0.out b1)
  have N1 := hide (N0.out.below b1)
  clear b1 B0 N0 HV
  go_wp2_with fail
  refine (HL.out _ B1.out).mono ?_
  rintro e w2 ⟨rfl, b2⟩
  have B2 := hide (chain B1.out b2)
  have N2 := hide (N1.out.below b2)
  clear b2 B1 N1 HL
  go_wp2_with fail
  refine (HM.out _ B2.out).mono ?_
  rintro e w3 ⟨rfl, b3⟩
  have B3 := hide (chain B2.out b3)
  have N3 := hide (N2.out.below b3)
  clear b3 B2 N2 HM
  go_wp2_with fail
  refine (HS.out _ B3.out).mono ?_
  rintro e w4 ⟨rfl, b4⟩
  have B4 := hide (chain B3.out b4)
  have N4 := hide (N3.out.below b4)
  clear b4 B3 N3 HS
  have BX : Hid (Below w4.heap.size w4 (w4.alloc (.cells #[.bool (true), .bool (true), .bool false] 31))) := (Below.refl _ w4).alloc (Nat.le_refl _) _
  have WX := hide (Bk.new w4 [.bool (true), .bool (true), .bool false] 31)
  go_upto_region 8 with fail
  generalize w4.alloc (.cells #[.bool (true), .bool (true), .bool false] 31) = x4 at *
  have NX := hide (N4.out.below BX.out)
  have B5 := hide (chain B4.out BX.out)
  have lt4 : w.heap.size < w4.heap.size := N4.out.lt
  have ne4 : w.heap.size ≠ w4.heap.size := by omega
  have ne5 : ¬ w4.heap.size = w.heap.size := by omega
  clear N4 BX
  have B6 := B5
  have N6 := NX
  have W6 := WX
  clear B5 NX WX
  have r0 := N6.out.cell 0 rfl
  have r1 := N6.out.cell 1 rfl
  have r2 := N6.out.cell 2 rfl
  have g0 := N6.out.free 0
  have g1 := N6.out.free 1
  have g2 := N6.out.free 2
  have x0 := W6.out.cell 0 rfl
  have x1 := W6.out.cell 1 rfl
  have x2 := W6.out.cell 2 rfl
  have y0 := W6.out.free 0
  have y1 := W6.out.free 1
  have y2 := W6.out.free 2
  go_wp2_with fail
  refine bodyPost_ret (v := .agg #[.bool (true), .bool (true), .bool (false)]) (by simp [results, go_sem, r0, r1, r2]) rfl ?_
  refine ⟨by rw [E.out]; rfl, ?_⟩
  exact ((((((B6.out.setCell (Nat.le_of_lt lt4) _).setCell (Nat.le_of_lt lt4) _).setCell (Nat.le_of_lt lt4) _).setCell (Nat.le_refl _) _).setCell (Nat.le_refl _) _).setCell (Nat.le_refl _) _)

set_option maxHeartbeats 8000000 in
set_option maxRecDepth 100000 in
theorem refFlags_001n (k : Int) (v : Value) (ax : List (ByteArray × ByteArray)) (s : ByteArray) (w : World) (hv : AttrsV w v ax) (hz : AxOK ax) (hs : s.size ≤ 100000) {n st : Int} (hN : numK k s.data.toList = some n) (hL : leastK k ax = none) (hM : mostK k ax = none) (hS : stepK k ax = some st) (hk : ¬ k = 11) :
    Calls Tryz.prog 15 #[.int .i64 k, v, .string s] w fun e w' => e = .returned (flagV (flagsK k ax s.data.toList)) ∧ Below w.heap.size w w' := by
  have HV := hide (fun W => refValue_any k s W hs)
  rw [hN, opt_some] at HV
  have HL := hide (fun W (hb : Below w.heap.size w W) => refLeastK_any k v ax W (hv.below hb) hz)
  rw [hL, opt_none] at HL
  have HM := hide (fun W (hb : Below w.heap.size w W) => refMostK_any k v ax W (hv.below hb) hz)
  rw [hM, opt_none] at HM
  have HS := hide (fun W (hb : Below w.heap.size w W) => refStepK_any k v ax W (hv.below hb) hz)
  rw [hS, opt_some] at HS
  have HB := hide (fun W (hb : Below w.heap.size w W) => refBaseK_any k v ax W (hv.below hb) hz)
  have HF := hide (fun W => refFits_any n (baseK k ax) st W (by have := num_range hN; omega) (by have := num_range hN; omega) (by have := base_range k ax; omega) (by have := base_range k ax; omega) (by have := step_range k ax hS; omega) (by have := step_range k ax hS; omega))
  have E : Hid (flagsK k ax s.data.toList = (false, false, !fitV n (baseK k ax) st)) := by
    show _ = _
    unfold flagsK
    rw [hN, hL, hM, hS]
    show flagsG k n none none (some st) (baseK k ax) = _
    unfold flagsG
    rw [if_neg (show ¬ turnG k none none = true from by rw [show turnG k none none = false from turn_left k _]; decide)]
    rfl
  obtain ⟨p, c, rfl, _⟩ := hv
  generalize fitV n (baseK k ax) st = ft at *
  generalize baseK k ax = bs at *
  have k11 : (k == 11) = false := by exact beq_eq_false_iff_ne.2 hk
  clear hN hs hz hL hM hS
  have B0 : Hid (Below w.heap.size w (w.alloc (.cells #[.bool false, .bool false, .bool false] 31))) := (Below.refl _ w).alloc (Nat.le_refl _) _
  have N0 := hide (Bk.new w [.bool false, .bool false, .bool false] 31)
  go_enter Tryz.func15, Tryz.ntmps15
  go_wp2_with fail
  generalize w.alloc (.cells #[.bool false, .bool false, .bool false] 31) = w0 at *
  refine (HV.out _).mono ?_
  rintro e w1 ⟨rfl, b1⟩
  have B1 := hide (chain B0.out b1)
  have N1 := hide (N0.out.below b1)
  clear b1 B0 N0 HV
  go_wp2_with fail
  refine (HL.out _ B1.out).mono ?_
  rintro e w2 ⟨rfl, b2⟩
  have B2 := hide (chain B1.out b2)
  have N2 := hide (N1.out.below b2)
  clear b2 B1 N1 HL
  go_wp2_with fail
  refine (HM.out _ B2.out).mono ?_
  rintro e w3 ⟨rfl, b3⟩
  have B3 := hide (chain B2.out b3)
  have N3 := hide (N2.out.below b3)
  clear b3 B2 N2 HM
  go_wp2_with fail
  refine (HS.out _ B3.out).mono ?_
  rintro e w4 ⟨rfl, b4⟩
  have B4 := hide (chain B3.out b4)
  have N4 := hide (N3.out.below b4)
  clear b4 B3 N3 HS
  have BX : Hid (Below w4.heap.size w4 (w4.alloc (.cells #[.bool (false), .bool (false), .bool false] 31))) := (Below.refl _ w4).alloc (Nat.le_refl _) _
  have WX := hide (Bk.new w4 [.bool (false), .bool (false), .bool false] 31)
  go_upto_region 8 with fail
  generalize w4.alloc (.cells #[.bool (false), .bool (false), .bool false] 31) = x4 at *
  have NX := hide (N4.out.below BX.out)
  have B5 := hide (chain B4.out BX.out)
  have lt4 : w.heap.size < w4.heap.size := N4.out.lt
  have ne4 : w.heap.size ≠ w4.heap.size := by omega
  have ne5 : ¬ w4.heap.size = w.heap.size := by omega
  clear N4 BX
  go_wp2_with fail
  refine (HB.out _ B5.out).mono ?_
  rintro e w5 ⟨rfl, b5⟩
  have B6 := hide (chain B5.out b5)
  have N6 := hide (NX.out.below b5)
  have W6 := hide (WX.out.below b5)
  clear b5 B5 NX WX HB
  go_wp2_with fail
  refine (HF.out _).mono ?_
  rintro e w6 ⟨rfl, hw6⟩
  obtain rfl : w5 = w6 := hw6.symm
  have r0 := N6.out.cell 0 rfl
  have r1 := N6.out.cell 1 rfl
  have r2 := N6.out.cell 2 rfl
  have g0 := N6.out.free 0
  have g1 := N6.out.free 1
  have g2 := N6.out.free 2
  have x0 := W6.out.cell 0 rfl
  have x1 := W6.out.cell 1 rfl
  have x2 := W6.out.cell 2 rfl
  have y0 := W6.out.free 0
  have y1 := W6.out.free 1
  have y2 := W6.out.free 2
  go_wp2_with fail
  refine bodyPost_ret (v := .agg #[.bool (false), .bool (false), .bool (!ft)]) (by simp [results, go_sem, r0, r1, r2]) rfl ?_
  refine ⟨by rw [E.out]; rfl, ?_⟩
  exact ((((B6.out.setCell (Nat.le_of_lt lt4) _).setCell (Nat.le_refl _) _).setCell (Nat.le_refl _) _).setCell (Nat.le_refl _) _)

set_option maxHeartbeats 8000000 in
set_option maxRecDepth 100000 in
theorem refFlags_001y (k : Int) (v : Value) (ax : List (ByteArray × ByteArray)) (s : ByteArray) (w : World) (hv : AttrsV w v ax) (hz : AxOK ax) (hs : s.size ≤ 100000) {n st : Int} (hN : numK k s.data.toList = some n) (hL : leastK k ax = none) (hM : mostK k ax = none) (hS : stepK k ax = some st) (hk : k = 11) :
    Calls Tryz.prog 15 #[.int .i64 k, v, .string s] w fun e w' => e = .returned (flagV (flagsK k ax s.data.toList)) ∧ Below w.heap.size w w' := by
  have HV := hide (fun W => refValue_any k s W hs)
  rw [hN, opt_some] at HV
  have HL := hide (fun W (hb : Below w.heap.size w W) => refLeastK_any k v ax W (hv.below hb) hz)
  rw [hL, opt_none] at HL
  have HM := hide (fun W (hb : Below w.heap.size w W) => refMostK_any k v ax W (hv.below hb) hz)
  rw [hM, opt_none] at HM
  have HS := hide (fun W (hb : Below w.heap.size w W) => refStepK_any k v ax W (hv.below hb) hz)
  rw [hS, opt_some] at HS
  have HB := hide (fun W (hb : Below w.heap.size w W) => refBaseK_any k v ax W (hv.below hb) hz)
  have HF := hide (fun W => refFits_any n (baseK k ax) st W (by have := num_range hN; omega) (by have := num_range hN; omega) (by have := base_range k ax; omega) (by have := base_range k ax; omega) (by have := step_range k ax hS; omega) (by have := step_range k ax hS; omega))
  have E : Hid (flagsK k ax s.data.toList = (false, false, !fitV n (baseK k ax) st)) := by
    show _ = _
    unfold flagsK
    rw [hN, hL, hM, hS]
    show flagsG k n none none (some st) (baseK k ax) = _
    unfold flagsG
    rw [if_neg (show ¬ turnG k none none = true from by rw [show turnG k none none = false from turn_left k _]; decide)]
    rfl
  obtain ⟨p, c, rfl, _⟩ := hv
  generalize fitV n (baseK k ax) st = ft at *
  generalize baseK k ax = bs at *
  have k11 : (k == 11) = true := by rw [hk]; rfl
  clear hN hs hz hL hM hS
  have B0 : Hid (Below w.heap.size w (w.alloc (.cells #[.bool false, .bool false, .bool false] 31))) := (Below.refl _ w).alloc (Nat.le_refl _) _
  have N0 := hide (Bk.new w [.bool false, .bool false, .bool false] 31)
  subst hk
  go_enter Tryz.func15, Tryz.ntmps15
  go_wp2_with fail
  generalize w.alloc (.cells #[.bool false, .bool false, .bool false] 31) = w0 at *
  refine (HV.out _).mono ?_
  rintro e w1 ⟨rfl, b1⟩
  have B1 := hide (chain B0.out b1)
  have N1 := hide (N0.out.below b1)
  clear b1 B0 N0 HV
  go_wp2_with fail
  refine (HL.out _ B1.out).mono ?_
  rintro e w2 ⟨rfl, b2⟩
  have B2 := hide (chain B1.out b2)
  have N2 := hide (N1.out.below b2)
  clear b2 B1 N1 HL
  go_wp2_with fail
  refine (HM.out _ B2.out).mono ?_
  rintro e w3 ⟨rfl, b3⟩
  have B3 := hide (chain B2.out b3)
  have N3 := hide (N2.out.below b3)
  clear b3 B2 N2 HM
  go_wp2_with fail
  refine (HS.out _ B3.out).mono ?_
  rintro e w4 ⟨rfl, b4⟩
  have B4 := hide (chain B3.out b4)
  have N4 := hide (N3.out.below b4)
  clear b4 B3 N3 HS
  have BX : Hid (Below w4.heap.size w4 (w4.alloc (.cells #[.bool (false), .bool (false), .bool false] 31))) := (Below.refl _ w4).alloc (Nat.le_refl _) _
  have WX := hide (Bk.new w4 [.bool (false), .bool (false), .bool false] 31)
  go_upto_region 8 with fail
  generalize w4.alloc (.cells #[.bool (false), .bool (false), .bool false] 31) = x4 at *
  have NX := hide (N4.out.below BX.out)
  have B5 := hide (chain B4.out BX.out)
  have lt4 : w.heap.size < w4.heap.size := N4.out.lt
  have ne4 : w.heap.size ≠ w4.heap.size := by omega
  have ne5 : ¬ w4.heap.size = w.heap.size := by omega
  clear N4 BX
  go_wp2_with fail
  refine (HB.out _ B5.out).mono ?_
  rintro e w5 ⟨rfl, b5⟩
  have B6 := hide (chain B5.out b5)
  have N6 := hide (NX.out.below b5)
  have W6 := hide (WX.out.below b5)
  clear b5 B5 NX WX HB
  go_wp2_with fail
  refine (HF.out _).mono ?_
  rintro e w6 ⟨rfl, hw6⟩
  obtain rfl : w5 = w6 := hw6.symm
  have r0 := N6.out.cell 0 rfl
  have r1 := N6.out.cell 1 rfl
  have r2 := N6.out.cell 2 rfl
  have g0 := N6.out.free 0
  have g1 := N6.out.free 1
  have g2 := N6.out.free 2
  have x0 := W6.out.cell 0 rfl
  have x1 := W6.out.cell 1 rfl
  have x2 := W6.out.cell 2 rfl
  have y0 := W6.out.free 0
  have y1 := W6.out.free 1
  have y2 := W6.out.free 2
  go_wp2_with fail
  refine bodyPost_ret (v := .agg #[.bool (false), .bool (false), .bool (!ft)]) (by simp [results, go_sem, r0, r1, r2]) rfl ?_
  refine ⟨by rw [E.out]; rfl, ?_⟩
  exact ((((B6.out.setCell (Nat.le_of_lt lt4) _).setCell (Nat.le_refl _) _).setCell (Nat.le_refl _) _).setCell (Nat.le_refl _) _)

set_option maxHeartbeats 8000000 in
set_option maxRecDepth 100000 in
theorem refFlags_011n (k : Int) (v : Value) (ax : List (ByteArray × ByteArray)) (s : ByteArray) (w : World) (hv : AttrsV w v ax) (hz : AxOK ax) (hs : s.size ≤ 100000) {n hi st : Int} (hN : numK k s.data.toList = some n) (hL : leastK k ax = none) (hM : mostK k ax = some hi) (hS : stepK k ax = some st) (hk : ¬ k = 11) :
    Calls Tryz.prog 15 #[.int .i64 k, v, .string s] w fun e w' => e = .returned (flagV (flagsK k ax s.data.toList)) ∧ Below w.heap.size w w' := by
  have HV := hide (fun W => refValue_any k s W hs)
  rw [hN, opt_some] at HV
  have HL := hide (fun W (hb : Below w.heap.size w W) => refLeastK_any k v ax W (hv.below hb) hz)
  rw [hL, opt_none] at HL
  have HM := hide (fun W (hb : Below w.heap.size w W) => refMostK_any k v ax W (hv.below hb) hz)
  rw [hM, opt_some] at HM
  have HS := hide (fun W (hb : Below w.heap.size w W) => refStepK_any k v ax W (hv.below hb) hz)
  rw [hS, opt_some] at HS
  have HB := hide (fun W (hb : Below w.heap.size w W) => refBaseK_any k v ax W (hv.below hb) hz)
  have HF := hide (fun W => refFits_any n (baseK k ax) st W (by have := num_range hN; omega) (by have := num_range hN; omega) (by have := base_range k ax; omega) (by have := base_range k ax; omega) (by have := step_range k ax hS; omega) (by have := step_range k ax hS; omega))
  have E : Hid (flagsK k ax s.data.toList = (false, decide (hi < n), !fitV n (baseK k ax) st)) := by
    show _ = _
    unfold flagsK
    rw [hN, hL, hM, hS]
    show flagsG k n none (some hi) (some st) (baseK k ax) = _
    unfold flagsG
    rw [if_neg (show ¬ turnG k none (some hi) = true from by rw [show turnG k none (some hi) = false from turn_left k _]; decide)]
    rfl
  obtain ⟨p, c, rfl, _⟩ := hv
  generalize fitV n (baseK k ax) st = ft at *
  generalize baseK k ax = bs at *
  have k11 : (k == 11) = false := by exact beq_eq_false_iff_ne.2 hk
  clear hN hs hz hL hM hS
  have B0 : Hid (Below w.heap.size w (w.alloc (.cells #[.bool false, .bool false, .bool false] 31))) := (Below.refl _ w).alloc (Nat.le_refl _) _
  have N0 := hide (Bk.new w [.bool false, .bool false, .bool false] 31)
  go_enter Tryz.func15, Tryz.ntmps15
  go_wp2_with fail
  generalize w.alloc (.cells #[.bool false, .bool false, .bool false] 31) = w0 at *
  refine (HV.out _).mono ?_
  rintro e w1 ⟨rfl, b1⟩
  have B1 := hide (chain B0.out b1)
  have N1 := hide (N0.out.below b1)
  clear b1 B0 N0 HV
  go_wp2_with fail
  refine (HL.out _ B1.out).mono ?_
  rintro e w2 ⟨rfl, b2⟩
  have B2 := hide (chain B1.out b2)
  have N2 := hide (N1.out.below b2)
  clear b2 B1 N1 HL
  go_wp2_with fail
  refine (HM.out _ B2.out).mono ?_
  rintro e w3 ⟨rfl, b3⟩
  have B3 := hide (chain B2.out b3)
  have N3 := hide (N2.out.below b3)
  clear b3 B2 N2 HM
  go_wp2_with fail
  refine (HS.out _ B3.out).mono ?_
  rintro e w4 ⟨rfl, b4⟩
  have B4 := hide (chain B3.out b4)
  have N4 := hide (N3.out.below b4)
  clear b4 B3 N3 HS
  have BX : Hid (Below w4.heap.size w4 (w4.alloc (.cells #[.bool (false), .bool (decide (hi < n)), .bool false] 31))) := (Below.refl _ w4).alloc (Nat.le_refl _) _
  have WX := hide (Bk.new w4 [.bool (false), .bool (decide (hi < n)), .bool false] 31)
  go_upto_region 8 with fail
  generalize w4.alloc (.cells #[.bool (false), .bool (decide (hi < n)), .bool false] 31) = x4 at *
  have NX := hide (N4.out.below BX.out)
  have B5 := hide (chain B4.out BX.out)
  have lt4 : w.heap.size < w4.heap.size := N4.out.lt
  have ne4 : w.heap.size ≠ w4.heap.size := by omega
  have ne5 : ¬ w4.heap.size = w.heap.size := by omega
  clear N4 BX
  go_wp2_with fail
  refine (HB.out _ B5.out).mono ?_
  rintro e w5 ⟨rfl, b5⟩
  have B6 := hide (chain B5.out b5)
  have N6 := hide (NX.out.below b5)
  have W6 := hide (WX.out.below b5)
  clear b5 B5 NX WX HB
  go_wp2_with fail
  refine (HF.out _).mono ?_
  rintro e w6 ⟨rfl, hw6⟩
  obtain rfl : w5 = w6 := hw6.symm
  have r0 := N6.out.cell 0 rfl
  have r1 := N6.out.cell 1 rfl
  have r2 := N6.out.cell 2 rfl
  have g0 := N6.out.free 0
  have g1 := N6.out.free 1
  have g2 := N6.out.free 2
  have x0 := W6.out.cell 0 rfl
  have x1 := W6.out.cell 1 rfl
  have x2 := W6.out.cell 2 rfl
  have y0 := W6.out.free 0
  have y1 := W6.out.free 1
  have y2 := W6.out.free 2
  go_wp2_with fail
  refine bodyPost_ret (v := .agg #[.bool (false), .bool (decide (hi < n)), .bool (!ft)]) (by simp [results, go_sem, r0, r1, r2]) rfl ?_
  refine ⟨by rw [E.out]; rfl, ?_⟩
  exact ((((B6.out.setCell (Nat.le_of_lt lt4) _).setCell (Nat.le_refl _) _).setCell (Nat.le_refl _) _).setCell (Nat.le_refl _) _)

set_option maxHeartbeats 8000000 in
set_option maxRecDepth 100000 in
theorem refFlags_011y (k : Int) (v : Value) (ax : List (ByteArray × ByteArray)) (s : ByteArray) (w : World) (hv : AttrsV w v ax) (hz : AxOK ax) (hs : s.size ≤ 100000) {n hi st : Int} (hN : numK k s.data.toList = some n) (hL : leastK k ax = none) (hM : mostK k ax = some hi) (hS : stepK k ax = some st) (hk : k = 11) :
    Calls Tryz.prog 15 #[.int .i64 k, v, .string s] w fun e w' => e = .returned (flagV (flagsK k ax s.data.toList)) ∧ Below w.heap.size w w' := by
  have HV := hide (fun W => refValue_any k s W hs)
  rw [hN, opt_some] at HV
  have HL := hide (fun W (hb : Below w.heap.size w W) => refLeastK_any k v ax W (hv.below hb) hz)
  rw [hL, opt_none] at HL
  have HM := hide (fun W (hb : Below w.heap.size w W) => refMostK_any k v ax W (hv.below hb) hz)
  rw [hM, opt_some] at HM
  have HS := hide (fun W (hb : Below w.heap.size w W) => refStepK_any k v ax W (hv.below hb) hz)
  rw [hS, opt_some] at HS
  have HB := hide (fun W (hb : Below w.heap.size w W) => refBaseK_any k v ax W (hv.below hb) hz)
  have HF := hide (fun W => refFits_any n (baseK k ax) st W (by have := num_range hN; omega) (by have := num_range hN; omega) (by have := base_range k ax; omega) (by have := base_range k ax; omega) (by have := step_range k ax hS; omega) (by have := step_range k ax hS; omega))
  have E : Hid (flagsK k ax s.data.toList = (false, decide (hi < n), !fitV n (baseK k ax) st)) := by
    show _ = _
    unfold flagsK
    rw [hN, hL, hM, hS]
    show flagsG k n none (some hi) (some st) (baseK k ax) = _
    unfold flagsG
    rw [if_neg (show ¬ turnG k none (some hi) = true from by rw [show turnG k none (some hi) = false from turn_left k _]; decide)]
    rfl
  obtain ⟨p, c, rfl, _⟩ := hv
  generalize fitV n (baseK k ax) st = ft at *
  generalize baseK k ax = bs at *
  have k11 : (k == 11) = true := by rw [hk]; rfl
  clear hN hs hz hL hM hS
  have B0 : Hid (Below w.heap.size w (w.alloc (.cells #[.bool false, .bool false, .bool false] 31))) := (Below.refl _ w).alloc (Nat.le_refl _) _
  have N0 := hide (Bk.new w [.bool false, .bool false, .bool false] 31)
  subst hk
  go_enter Tryz.func15, Tryz.ntmps15
  go_wp2_with fail
  generalize w.alloc (.cells #[.bool false, .bool false, .bool false] 31) = w0 at *
  refine (HV.out _).mono ?_
  rintro e w1 ⟨rfl, b1⟩
  have B1 := hide (chain B0.out b1)
  have N1 := hide (N0.out.below b1)
  clear b1 B0 N0 HV
  go_wp2_with fail
  refine (HL.out _ B1.out).mono ?_
  rintro e w2 ⟨rfl, b2⟩
  have B2 := hide (chain B1.out b2)
  have N2 := hide (N1.out.below b2)
  clear b2 B1 N1 HL
  go_wp2_with fail
  refine (HM.out _ B2.out).mono ?_
  rintro e w3 ⟨rfl, b3⟩
  have B3 := hide (chain B2.out b3)
  have N3 := hide (N2.out.below b3)
  clear b3 B2 N2 HM
  go_wp2_with fail
  refine (HS.out _ B3.out).mono ?_
  rintro e w4 ⟨rfl, b4⟩
  have B4 := hide (chain B3.out b4)
  have N4 := hide (N3.out.below b4)
  clear b4 B3 N3 HS
  have BX : Hid (Below w4.heap.size w4 (w4.alloc (.cells #[.bool (false), .bool (decide (hi < n)), .bool false] 31))) := (Below.refl _ w4).alloc (Nat.le_refl _) _
  have WX := hide (Bk.new w4 [.bool (false), .bool (decide (hi < n)), .bool false] 31)
  go_upto_region 8 with fail
  generalize w4.alloc (.cells #[.bool (false), .bool (decide (hi < n)), .bool false] 31) = x4 at *
  have NX := hide (N4.out.below BX.out)
  have B5 := hide (chain B4.out BX.out)
  have lt4 : w.heap.size < w4.heap.size := N4.out.lt
  have ne4 : w.heap.size ≠ w4.heap.size := by omega
  have ne5 : ¬ w4.heap.size = w.heap.size := by omega
  clear N4 BX
  go_wp2_with fail
  refine (HB.out _ B5.out).mono ?_
  rintro e w5 ⟨rfl, b5⟩
  have B6 := hide (chain B5.out b5)
  have N6 := hide (NX.out.below b5)
  have W6 := hide (WX.out.below b5)
  clear b5 B5 NX WX HB
  go_wp2_with fail
  refine (HF.out _).mono ?_
  rintro e w6 ⟨rfl, hw6⟩
  obtain rfl : w5 = w6 := hw6.symm
  have r0 := N6.out.cell 0 rfl
  have r1 := N6.out.cell 1 rfl
  have r2 := N6.out.cell 2 rfl
  have g0 := N6.out.free 0
  have g1 := N6.out.free 1
  have g2 := N6.out.free 2
  have x0 := W6.out.cell 0 rfl
  have x1 := W6.out.cell 1 rfl
  have x2 := W6.out.cell 2 rfl
  have y0 := W6.out.free 0
  have y1 := W6.out.free 1
  have y2 := W6.out.free 2
  go_wp2_with fail
  refine bodyPost_ret (v := .agg #[.bool (false), .bool (decide (hi < n)), .bool (!ft)]) (by simp [results, go_sem, r0, r1, r2]) rfl ?_
  refine ⟨by rw [E.out]; rfl, ?_⟩
  exact ((((B6.out.setCell (Nat.le_of_lt lt4) _).setCell (Nat.le_refl _) _).setCell (Nat.le_refl _) _).setCell (Nat.le_refl _) _)

set_option maxHeartbeats 8000000 in
set_option maxRecDepth 100000 in
theorem refFlags_101n (k : Int) (v : Value) (ax : List (ByteArray × ByteArray)) (s : ByteArray) (w : World) (hv : AttrsV w v ax) (hz : AxOK ax) (hs : s.size ≤ 100000) {n lo st : Int} (hN : numK k s.data.toList = some n) (hL : leastK k ax = some lo) (hM : mostK k ax = none) (hS : stepK k ax = some st) (hk : ¬ k = 11) :
    Calls Tryz.prog 15 #[.int .i64 k, v, .string s] w fun e w' => e = .returned (flagV (flagsK k ax s.data.toList)) ∧ Below w.heap.size w w' := by
  have HV := hide (fun W => refValue_any k s W hs)
  rw [hN, opt_some] at HV
  have HL := hide (fun W (hb : Below w.heap.size w W) => refLeastK_any k v ax W (hv.below hb) hz)
  rw [hL, opt_some] at HL
  have HM := hide (fun W (hb : Below w.heap.size w W) => refMostK_any k v ax W (hv.below hb) hz)
  rw [hM, opt_none] at HM
  have HS := hide (fun W (hb : Below w.heap.size w W) => refStepK_any k v ax W (hv.below hb) hz)
  rw [hS, opt_some] at HS
  have HB := hide (fun W (hb : Below w.heap.size w W) => refBaseK_any k v ax W (hv.below hb) hz)
  have HF := hide (fun W => refFits_any n (baseK k ax) st W (by have := num_range hN; omega) (by have := num_range hN; omega) (by have := base_range k ax; omega) (by have := base_range k ax; omega) (by have := step_range k ax hS; omega) (by have := step_range k ax hS; omega))
  have E : Hid (flagsK k ax s.data.toList = (decide (n < lo), false, !fitV n (baseK k ax) st)) := by
    show _ = _
    unfold flagsK
    rw [hN, hL, hM, hS]
    show flagsG k n (some lo) none (some st) (baseK k ax) = _
    unfold flagsG
    rw [if_neg (show ¬ turnG k (some lo) none = true from by rw [show turnG k (some lo) none = false from turn_right k _]; decide)]
    rfl
  obtain ⟨p, c, rfl, _⟩ := hv
  generalize fitV n (baseK k ax) st = ft at *
  generalize baseK k ax = bs at *
  have k11 : (k == 11) = false := by exact beq_eq_false_iff_ne.2 hk
  clear hN hs hz hL hM hS
  have B0 : Hid (Below w.heap.size w (w.alloc (.cells #[.bool false, .bool false, .bool false] 31))) := (Below.refl _ w).alloc (Nat.le_refl _) _
  have N0 := hide (Bk.new w [.bool false, .bool false, .bool false] 31)
  go_enter Tryz.func15, Tryz.ntmps15
  go_wp2_with fail
  generalize w.alloc (.cells #[.bool false, .bool false, .bool false] 31) = w0 at *
  refine (HV.out _).mono ?_
  rintro e w1 ⟨rfl, b1⟩
  have B1 := hide (chain B0.out b1)
  have N1 := hide (N0.out.below b1)
  clear b1 B0 N0 HV
  go_wp2_with fail
  refine (HL.out _ B1.out).mono ?_
  rintro e w2 ⟨rfl, b2⟩
  have B2 := hide (chain B1.out b2)
  have N2 := hide (N1.out.below b2)
  clear b2 B1 N1 HL
  go_wp2_with fail
  refine (HM.out _ B2.out).mono ?_
  rintro e w3 ⟨rfl, b3⟩
  have B3 := hide (chain B2.out b3)
  have N3 := hide (N2.out.below b3)
  clear b3 B2 N2 HM
  go_wp2_with fail
  refine (HS.out _ B3.out).mono ?_
  rintro e w4 ⟨rfl, b4⟩
  have B4 := hide (chain B3.out b4)
  have N4 := hide (N3.out.below b4)
  clear b4 B3 N3 HS
  have BX : Hid (Below w4.heap.size w4 (w4.alloc (.cells #[.bool (decide (n < lo)), .bool (false), .bool false] 31))) := (Below.refl _ w4).alloc (Nat.le_refl _) _
  have WX := hide (Bk.new w4 [.bool (decide (n < lo)), .bool (false), .bool false] 31)
  go_upto_region 8 with fail
  generalize w4.alloc (.cells #[.bool (decide (n < lo)), .bool (false), .bool false] 31) = x4 at *
  have NX := hide (N4.out.below BX.out)
  have B5 := hide (chain B4.out BX.out)
  have lt4 : w.heap.size < w4.heap.size := N4.out.lt
  have ne4 : w.heap.size ≠ w4.heap.size := by omega
  have ne5 : ¬ w4.heap.size = w.heap.size := by omega
  clear N4 BX
  go_wp2_with fail
  refine (HB.out _ B5.out).mono ?_
  rintro e w5 ⟨rfl, b5⟩
  have B6 := hide (chain B5.out b5)
  have N6 := hide (NX.out.below b5)
  have W6 := hide (WX.out.below b5)
  clear b5 B5 NX WX HB
  go_wp2_with fail
  refine (HF.out _).mono ?_
  rintro e w6 ⟨rfl, hw6⟩
  obtain rfl : w5 = w6 := hw6.symm
  have r0 := N6.out.cell 0 rfl
  have r1 := N6.out.cell 1 rfl
  have r2 := N6.out.cell 2 rfl
  have g0 := N6.out.free 0
  have g1 := N6.out.free 1
  have g2 := N6.out.free 2
  have x0 := W6.out.cell 0 rfl
  have x1 := W6.out.cell 1 rfl
  have x2 := W6.out.cell 2 rfl
  have y0 := W6.out.free 0
  have y1 := W6.out.free 1
  have y2 := W6.out.free 2
  go_wp2_with fail
  refine bodyPost_ret (v := .agg #[.bool (decide (n < lo)), .bool (false), .bool (!ft)]) (by simp [results, go_sem, r0, r1, r2]) rfl ?_
  refine ⟨by rw [E.out]; rfl, ?_⟩
  exact ((((B6.out.setCell (Nat.le_of_lt lt4) _).setCell (Nat.le_refl _) _).setCell (Nat.le_refl _) _).setCell (Nat.le_refl _) _)

set_option maxHeartbeats 8000000 in
set_option maxRecDepth 100000 in
theorem refFlags_101y (k : Int) (v : Value) (ax : List (ByteArray × ByteArray)) (s : ByteArray) (w : World) (hv : AttrsV w v ax) (hz : AxOK ax) (hs : s.size ≤ 100000) {n lo st : Int} (hN : numK k s.data.toList = some n) (hL : leastK k ax = some lo) (hM : mostK k ax = none) (hS : stepK k ax = some st) (hk : k = 11) :
    Calls Tryz.prog 15 #[.int .i64 k, v, .string s] w fun e w' => e = .returned (flagV (flagsK k ax s.data.toList)) ∧ Below w.heap.size w w' := by
  have HV := hide (fun W => refValue_any k s W hs)
  rw [hN, opt_some] at HV
  have HL := hide (fun W (hb : Below w.heap.size w W) => refLeastK_any k v ax W (hv.below hb) hz)
  rw [hL, opt_some] at HL
  have HM := hide (fun W (hb : Below w.heap.size w W) => refMostK_any k v ax W (hv.below hb) hz)
  rw [hM, opt_none] at HM
  have HS := hide (fun W (hb : Below w.heap.size w W) => refStepK_any k v ax W (hv.below hb) hz)
  rw [hS, opt_some] at HS
  have HB := hide (fun W (hb : Below w.heap.size w W) => refBaseK_any k v ax W (hv.below hb) hz)
  have HF := hide (fun W => refFits_any n (baseK k ax) st W (by have := num_range hN; omega) (by have := num_range hN; omega) (by have := base_range k ax; omega) (by have := base_range k ax; omega) (by have := step_range k ax hS; omega) (by have := step_range k ax hS; omega))
  have E : Hid (flagsK k ax s.data.toList = (decide (n < lo), false, !fitV n (baseK k ax) st)) := by
    show _ = _
    unfold flagsK
    rw [hN, hL, hM, hS]
    show flagsG k n (some lo) none (some st) (baseK k ax) = _
    unfold flagsG
    rw [if_neg (show ¬ turnG k (some lo) none = true from by rw [show turnG k (some lo) none = false from turn_right k _]; decide)]
    rfl
  obtain ⟨p, c, rfl, _⟩ := hv
  generalize fitV n (baseK k ax) st = ft at *
  generalize baseK k ax = bs at *
  have k11 : (k == 11) = true := by rw [hk]; rfl
  clear hN hs hz hL hM hS
  have B0 : Hid (Below w.heap.size w (w.alloc (.cells #[.bool false, .bool false, .bool false] 31))) := (Below.refl _ w).alloc (Nat.le_refl _) _
  have N0 := hide (Bk.new w [.bool false, .bool false, .bool false] 31)
  subst hk
  go_enter Tryz.func15, Tryz.ntmps15
  go_wp2_with fail
  generalize w.alloc (.cells #[.bool false, .bool false, .bool false] 31) = w0 at *
  refine (HV.out _).mono ?_
  rintro e w1 ⟨rfl, b1⟩
  have B1 := hide (chain B0.out b1)
  have N1 := hide (N0.out.below b1)
  clear b1 B0 N0 HV
  go_wp2_with fail
  refine (HL.out _ B1.out).mono ?_
  rintro e w2 ⟨rfl, b2⟩
  have B2 := hide (chain B1.out b2)
  have N2 := hide (N1.out.below b2)
  clear b2 B1 N1 HL
  go_wp2_with fail
  refine (HM.out _ B2.out).mono ?_
  rintro e w3 ⟨rfl, b3⟩
  have B3 := hide (chain B2.out b3)
  have N3 := hide (N2.out.below b3)
  clear b3 B2 N2 HM
  go_wp2_with fail
  refine (HS.out _ B3.out).mono ?_
  rintro e w4 ⟨rfl, b4⟩
  have B4 := hide (chain B3.out b4)
  have N4 := hide (N3.out.below b4)
  clear b4 B3 N3 HS
  have BX : Hid (Below w4.heap.size w4 (w4.alloc (.cells #[.bool (decide (n < lo)), .bool (false), .bool false] 31))) := (Below.refl _ w4).alloc (Nat.le_refl _) _
  have WX := hide (Bk.new w4 [.bool (decide (n < lo)), .bool (false), .bool false] 31)
  go_upto_region 8 with fail
  generalize w4.alloc (.cells #[.bool (decide (n < lo)), .bool (false), .bool false] 31) = x4 at *
  have NX := hide (N4.out.below BX.out)
  have B5 := hide (chain B4.out BX.out)
  have lt4 : w.heap.size < w4.heap.size := N4.out.lt
  have ne4 : w.heap.size ≠ w4.heap.size := by omega
  have ne5 : ¬ w4.heap.size = w.heap.size := by omega
  clear N4 BX
  go_wp2_with fail
  refine (HB.out _ B5.out).mono ?_
  rintro e w5 ⟨rfl, b5⟩
  have B6 := hide (chain B5.out b5)
  have N6 := hide (NX.out.below b5)
  have W6 := hide (WX.out.below b5)
  clear b5 B5 NX WX HB
  go_wp2_with fail
  refine (HF.out _).mono ?_
  rintro e w6 ⟨rfl, hw6⟩
  obtain rfl : w5 = w6 := hw6.symm
  have r0 := N6.out.cell 0 rfl
  have r1 := N6.out.cell 1 rfl
  have r2 := N6.out.cell 2 rfl
  have g0 := N6.out.free 0
  have g1 := N6.out.free 1
  have g2 := N6.out.free 2
  have x0 := W6.out.cell 0 rfl
  have x1 := W6.out.cell 1 rfl
  have x2 := W6.out.cell 2 rfl
  have y0 := W6.out.free 0
  have y1 := W6.out.free 1
  have y2 := W6.out.free 2
  go_wp2_with fail
  refine bodyPost_ret (v := .agg #[.bool (decide (n < lo)), .bool (false), .bool (!ft)]) (by simp [results, go_sem, r0, r1, r2]) rfl ?_
  refine ⟨by rw [E.out]; rfl, ?_⟩
  exact ((((B6.out.setCell (Nat.le_of_lt lt4) _).setCell (Nat.le_refl _) _).setCell (Nat.le_refl _) _).setCell (Nat.le_refl _) _)

set_option maxHeartbeats 8000000 in
set_option maxRecDepth 100000 in
theorem refFlags_111n (k : Int) (v : Value) (ax : List (ByteArray × ByteArray)) (s : ByteArray) (w : World) (hv : AttrsV w v ax) (hz : AxOK ax) (hs : s.size ≤ 100000) {n lo hi st : Int} (hN : numK k s.data.toList = some n) (hL : leastK k ax = some lo) (hM : mostK k ax = some hi) (hS : stepK k ax = some st) (hk : ¬ k = 11) :
    Calls Tryz.prog 15 #[.int .i64 k, v, .string s] w fun e w' => e = .returned (flagV (flagsK k ax s.data.toList)) ∧ Below w.heap.size w w' := by
  have HV := hide (fun W => refValue_any k s W hs)
  rw [hN, opt_some] at HV
  have HL := hide (fun W (hb : Below w.heap.size w W) => refLeastK_any k v ax W (hv.below hb) hz)
  rw [hL, opt_some] at HL
  have HM := hide (fun W (hb : Below w.heap.size w W) => refMostK_any k v ax W (hv.below hb) hz)
  rw [hM, opt_some] at HM
  have HS := hide (fun W (hb : Below w.heap.size w W) => refStepK_any k v ax W (hv.below hb) hz)
  rw [hS, opt_some] at HS
  have HB := hide (fun W (hb : Below w.heap.size w W) => refBaseK_any k v ax W (hv.below hb) hz)
  have HF := hide (fun W => refFits_any n (baseK k ax) st W (by have := num_range hN; omega) (by have := num_range hN; omega) (by have := base_range k ax; omega) (by have := base_range k ax; omega) (by have := step_range k ax hS; omega) (by have := step_range k ax hS; omega))
  have E : Hid (flagsK k ax s.data.toList = (decide (n < lo), decide (hi < n), !fitV n (baseK k ax) st)) := by
    show _ = _
    unfold flagsK
    rw [hN, hL, hM, hS]
    show flagsG k n (some lo) (some hi) (some st) (baseK k ax) = _
    unfold flagsG
    rw [if_neg (show ¬ turnG k (some lo) (some hi) = true from by rw [show turnG k (some lo) (some hi) = false from by unfold turnG; rw [beq_eq_false_iff_ne.2 hk]; rfl]; decide)]
    rfl
  obtain ⟨p, c, rfl, _⟩ := hv
  generalize fitV n (baseK k ax) st = ft at *
  generalize baseK k ax = bs at *
  have k11 : (k == 11) = false := by exact beq_eq_false_iff_ne.2 hk
  clear hN hs hz hL hM hS
  have B0 : Hid (Below w.heap.size w (w.alloc (.cells #[.bool false, .bool false, .bool false] 31))) := (Below.refl _ w).alloc (Nat.le_refl _) _
  have N0 := hide (Bk.new w [.bool false, .bool false, .bool false] 31)
  go_enter Tryz.func15, Tryz.ntmps15
  go_wp2_with fail
  generalize w.alloc (.cells #[.bool false, .bool false, .bool false] 31) = w0 at *
  refine (HV.out _).mono ?_
  rintro e w1 ⟨rfl, b1⟩
  have B1 := hide (chain B0.out b1)
  have N1 := hide (N0.out.below b1)
  clear b1 B0 N0 HV
  go_wp2_with fail
  refine (HL.out _ B1.out).mono ?_
  rintro e w2 ⟨rfl, b2⟩
  have B2 := hide (chain B1.out b2)
  have N2 := hide (N1.out.below b2)
  clear b2 B1 N1 HL
  go_wp2_with fail
  refine (HM.out _ B2.out).mono ?_
  rintro e w3 ⟨rfl, b3⟩
  have B3 := hide (chain B2.out b3)
  have N3 := hide (N2.out.below b3)
  clear b3 B2 N2 HM
  go_wp2_with fail
  refine (HS.out _ B3.out).mono ?_
  rintro e w4 ⟨rfl, b4⟩
  have B4 := hide (chain B3.out b4)
  have N4 := hide (N3.out.below b4)
  clear b4 B3 N3 HS
  have BX : Hid (Below w4.heap.size w4 (w4.alloc (.cells #[.bool (decide (n < lo)), .bool (decide (hi < n)), .bool false] 31))) := (Below.refl _ w4).alloc (Nat.le_refl _) _
  have WX := hide (Bk.new w4 [.bool (decide (n < lo)), .bool (decide (hi < n)), .bool false] 31)
  go_upto_region 8 with fail
  generalize w4.alloc (.cells #[.bool (decide (n < lo)), .bool (decide (hi < n)), .bool false] 31) = x4 at *
  have NX := hide (N4.out.below BX.out)
  have B5 := hide (chain B4.out BX.out)
  have lt4 : w.heap.size < w4.heap.size := N4.out.lt
  have ne4 : w.heap.size ≠ w4.heap.size := by omega
  have ne5 : ¬ w4.heap.size = w.heap.size := by omega
  clear N4 BX
  go_wp2_with fail
  refine (HB.out _ B5.out).mono ?_
  rintro e w5 ⟨rfl, b5⟩
  have B6 := hide (chain B5.out b5)
  have N6 := hide (NX.out.below b5)
  have W6 := hide (WX.out.below b5)
  clear b5 B5 NX WX HB
  go_wp2_with fail
  refine (HF.out _).mono ?_
  rintro e w6 ⟨rfl, hw6⟩
  obtain rfl : w5 = w6 := hw6.symm
  have r0 := N6.out.cell 0 rfl
  have r1 := N6.out.cell 1 rfl
  have r2 := N6.out.cell 2 rfl
  have g0 := N6.out.free 0
  have g1 := N6.out.free 1
  have g2 := N6.out.free 2
  have x0 := W6.out.cell 0 rfl
  have x1 := W6.out.cell 1 rfl
  have x2 := W6.out.cell 2 rfl
  have y0 := W6.out.free 0
  have y1 := W6.out.free 1
  have y2 := W6.out.free 2
  go_wp2_with fail
  refine bodyPost_ret (v := .agg #[.bool (decide (n < lo)), .bool (decide (hi < n)), .bool (!ft)]) (by simp [results, go_sem, r0, r1, r2]) rfl ?_
  refine ⟨by rw [E.out]; rfl, ?_⟩
  exact ((((B6.out.setCell (Nat.le_of_lt lt4) _).setCell (Nat.le_refl _) _).setCell (Nat.le_refl _) _).setCell (Nat.le_refl _) _)

set_option maxHeartbeats 8000000 in
set_option maxRecDepth 100000 in
theorem refFlags_111yf (k : Int) (v : Value) (ax : List (ByteArray × ByteArray)) (s : ByteArray) (w : World) (hv : AttrsV w v ax) (hz : AxOK ax) (hs : s.size ≤ 100000) {n lo hi st : Int} (hN : numK k s.data.toList = some n) (hL : leastK k ax = some lo) (hM : mostK k ax = some hi) (hS : stepK k ax = some st) (hk : k = 11) (hlt : ¬ hi < lo) :
    Calls Tryz.prog 15 #[.int .i64 k, v, .string s] w fun e w' => e = .returned (flagV (flagsK k ax s.data.toList)) ∧ Below w.heap.size w w' := by
  have HV := hide (fun W => refValue_any k s W hs)
  rw [hN, opt_some] at HV
  have HL := hide (fun W (hb : Below w.heap.size w W) => refLeastK_any k v ax W (hv.below hb) hz)
  rw [hL, opt_some] at HL
  have HM := hide (fun W (hb : Below w.heap.size w W) => refMostK_any k v ax W (hv.below hb) hz)
  rw [hM, opt_some] at HM
  have HS := hide (fun W (hb : Below w.heap.size w W) => refStepK_any k v ax W (hv.below hb) hz)
  rw [hS, opt_some] at HS
  have HB := hide (fun W (hb : Below w.heap.size w W) => refBaseK_any k v ax W (hv.below hb) hz)
  have HF := hide (fun W => refFits_any n (baseK k ax) st W (by have := num_range hN; omega) (by have := num_range hN; omega) (by have := base_range k ax; omega) (by have := base_range k ax; omega) (by have := step_range k ax hS; omega) (by have := step_range k ax hS; omega))
  have E : Hid (flagsK k ax s.data.toList = (decide (n < lo), decide (hi < n), !fitV n (baseK k ax) st)) := by
    show _ = _
    unfold flagsK
    rw [hN, hL, hM, hS]
    show flagsG k n (some lo) (some hi) (some st) (baseK k ax) = _
    unfold flagsG
    rw [if_neg (show ¬ turnG k (some lo) (some hi) = true from by rw [show turnG k (some lo) (some hi) = false from by subst hk; show (true && (true && (true && decide (hi < lo)))) = false; rw [decide_eq_false hlt]; rfl]; decide)]
    rfl
  obtain ⟨p, c, rfl, _⟩ := hv
  generalize fitV n (baseK k ax) st = ft at *
  generalize baseK k ax = bs at *
  have k11 : (k == 11) = true := by rw [hk]; rfl
  have d1 : decide (hi < lo) = false := decide_eq_false hlt
  clear hN hs hz hL hM hS
  have B0 : Hid (Below w.heap.size w (w.alloc (.cells #[.bool false, .bool false, .bool false] 31))) := (Below.refl _ w).alloc (Nat.le_refl _) _
  have N0 := hide (Bk.new w [.bool false, .bool false, .bool false] 31)
  subst hk
  go_enter Tryz.func15, Tryz.ntmps15
  go_wp2_with fail
  generalize w.alloc (.cells #[.bool false, .bool false, .bool false] 31) = w0 at *
  refine (HV.out _).mono ?_
  rintro e w1 ⟨rfl, b1⟩
  have B1 := hide (chain B0.out b1)
  have N1 := hide (N0.out.below b1)
  clear b1 B0 N0 HV
  go_wp2_with fail
  refine (HL.out _ B1.out).mono ?_
  rintro e w2 ⟨rfl, b2⟩
  have B2 := hide (chain B1.out b2)
  have N2 := hide (N1.out.below b2)
  clear b2 B1 N1 HL
  go_wp2_with fail
  refine (HM.out _ B2.out).mono ?_
  rintro e w3 ⟨rfl, b3⟩
  have B3 := hide (chain B2.out b3)
  have N3 := hide (N2.out.below b3)
  clear b3 B2 N2 HM
  go_wp2_with fail
  refine (HS.out _ B3.out).mono ?_
  rintro e w4 ⟨rfl, b4⟩
  have B4 := hide (chain B3.out b4)
  have N4 := hide (N3.out.below b4)
  clear b4 B3 N3 HS
  have BX : Hid (Below w4.heap.size w4 (w4.alloc (.cells #[.bool (decide (n < lo)), .bool (decide (hi < n)), .bool false] 31))) := (Below.refl _ w4).alloc (Nat.le_refl _) _
  have WX := hide (Bk.new w4 [.bool (decide (n < lo)), .bool (decide (hi < n)), .bool false] 31)
  go_upto_region 8 with fail
  generalize w4.alloc (.cells #[.bool (decide (n < lo)), .bool (decide (hi < n)), .bool false] 31) = x4 at *
  have NX := hide (N4.out.below BX.out)
  have B5 := hide (chain B4.out BX.out)
  have lt4 : w.heap.size < w4.heap.size := N4.out.lt
  have ne4 : w.heap.size ≠ w4.heap.size := by omega
  have ne5 : ¬ w4.heap.size = w.heap.size := by omega
  clear N4 BX
  go_wp2_with fail
  refine (HB.out _ B5.out).mono ?_
  rintro e w5 ⟨rfl, b5⟩
  have B6 := hide (chain B5.out b5)
  have N6 := hide (NX.out.below b5)
  have W6 := hide (WX.out.below b5)
  clear b5 B5 NX WX HB
  go_wp2_with fail
  refine (HF.out _).mono ?_
  rintro e w6 ⟨rfl, hw6⟩
  obtain rfl : w5 = w6 := hw6.symm
  have r0 := N6.out.cell 0 rfl
  have r1 := N6.out.cell 1 rfl
  have r2 := N6.out.cell 2 rfl
  have g0 := N6.out.free 0
  have g1 := N6.out.free 1
  have g2 := N6.out.free 2
  have x0 := W6.out.cell 0 rfl
  have x1 := W6.out.cell 1 rfl
  have x2 := W6.out.cell 2 rfl
  have y0 := W6.out.free 0
  have y1 := W6.out.free 1
  have y2 := W6.out.free 2
  go_wp2_with fail
  refine bodyPost_ret (v := .agg #[.bool (decide (n < lo)), .bool (decide (hi < n)), .bool (!ft)]) (by simp [results, go_sem, r0, r1, r2]) rfl ?_
  refine ⟨by rw [E.out]; rfl, ?_⟩
  exact ((((B6.out.setCell (Nat.le_of_lt lt4) _).setCell (Nat.le_refl _) _).setCell (Nat.le_refl _) _).setCell (Nat.le_refl _) _)

set_option maxHeartbeats 8000000 in
set_option maxRecDepth 100000 in
theorem refFlags_111yt01 (k : Int) (v : Value) (ax : List (ByteArray × ByteArray)) (s : ByteArray) (w : World) (hv : AttrsV w v ax) (hz : AxOK ax) (hs : s.size ≤ 100000) {n lo hi st : Int} (hN : numK k s.data.toList = some n) (hL : leastK k ax = some lo) (hM : mostK k ax = some hi) (hS : stepK k ax = some st) (hk : k = 11) (hlt : hi < lo) (ha : ¬ hi < n) (hb : n < lo) :
    Calls Tryz.prog 15 #[.int .i64 k, v, .string s] w fun e w' => e = .returned (flagV (flagsK k ax s.data.toList)) ∧ Below w.heap.size w w' := by
  have HV := hide (fun W => refValue_any k s W hs)
  rw [hN, opt_some] at HV
  have HL := hide (fun W (hb : Below w.heap.size w W) => refLeastK_any k v ax W (hv.below hb) hz)
  rw [hL, opt_some] at HL
  have HM := hide (fun W (hb : Below w.heap.size w W) => refMostK_any k v ax W (hv.below hb) hz)
  rw [hM, opt_some] at HM
  have HS := hide (fun W (hb : Below w.heap.size w W) => refStepK_any k v ax W (hv.below hb) hz)
  rw [hS, opt_some] at HS
  have HB := hide (fun W (hb : Below w.heap.size w W) => refBaseK_any k v ax W (hv.below hb) hz)
  have HF := hide (fun W => refFits_any n (baseK k ax) st W (by have := num_range hN; omega) (by have := num_range hN; omega) (by have := base_range k ax; omega) (by have := base_range k ax; omega) (by have := step_range k ax hS; omega) (by have := step_range k ax hS; omega))
  have E : Hid (flagsK k ax s.data.toList = (false, false, !fitV n (baseK k ax) st)) := by
    show _ = _
    unfold flagsK
    rw [hN, hL, hM, hS]
    show flagsG k n (some lo) (some hi) (some st) (baseK k ax) = _
    unfold flagsG
    rw [if_pos (show turnG k (some lo) (some hi) = true from by subst hk; show (true && (true && (true && decide (hi < lo)))) = true; rw [decide_eq_true hlt]; rfl)]
    show (decide (hi < n) && decide (n < lo), decide (hi < n) && decide (n < lo), _) = _
    rw [decide_eq_false ha, decide_eq_true hb]; rfl
  obtain ⟨p, c, rfl, _⟩ := hv
  generalize fitV n (baseK k ax) st = ft at *
  generalize baseK k ax = bs at *
  have k11 : (k == 11) = true := by rw [hk]; rfl
  have d1 : decide (hi < lo) = true := decide_eq_true hlt
  have d2 : decide (hi < n) = false := decide_eq_false ha
  have d3 : decide (n < lo) = true := decide_eq_true hb
  clear hN hs hz hL hM hS
  have B0 : Hid (Below w.heap.size w (w.alloc (.cells #[.bool false, .bool false, .bool false] 31))) := (Below.refl _ w).alloc (Nat.le_refl _) _
  have N0 := hide (Bk.new w [.bool false, .bool false, .bool false] 31)
  subst hk
  go_enter Tryz.func15, Tryz.ntmps15
  go_wp2_with fail
  generalize w.alloc (.cells #[.bool false, .bool false, .bool false] 31) = w0 at *
  refine (HV.out _).mono ?_
  rintro e w1 ⟨rfl, b1⟩
  have B1 := hide (chain B0.out b1)
  have N1 := hide (N0.out.below b1)
  clear b1 B0 N0 HV
  go_wp2_with fail
  refine (HL.out _ B1.out).mono ?_
  rintro e w2 ⟨rfl, b2⟩
  have B2 := hide (chain B1.out b2)
  have N2 := hide (N1.out.below b2)
  clear b2 B1 N1 HL
  go_wp2_with fail
  refine (HM.out _ B2.out).mono ?_
  rintro e w3 ⟨rfl, b3⟩
  have B3 := hide (chain B2.out b3)
  have N3 := hide (N2.out.below b3)
  clear b3 B2 N2 HM
  go_wp2_with fail
  refine (HS.out _ B3.out).mono ?_
  rintro e w4 ⟨rfl, b4⟩
  have B4 := hide (chain B3.out b4)
  have N4 := hide (N3.out.below b4)
  clear b4 B3 N3 HS
  have BX : Hid (Below w4.heap.size w4 (w4.alloc (.cells #[.bool (true), .bool (false), .bool false] 31))) := (Below.refl _ w4).alloc (Nat.le_refl _) _
  have WX := hide (Bk.new w4 [.bool (true), .bool (false), .bool false] 31)
  go_upto_region 8 with fail
  generalize w4.alloc (.cells #[.bool (true), .bool (false), .bool false] 31) = x4 at *
  have NX := hide (N4.out.below BX.out)
  have B5 := hide (chain B4.out BX.out)
  have lt4 : w.heap.size < w4.heap.size := N4.out.lt
  have ne4 : w.heap.size ≠ w4.heap.size := by omega
  have ne5 : ¬ w4.heap.size = w.heap.size := by omega
  clear N4 BX
  go_wp2_with fail
  refine (HB.out _ B5.out).mono ?_
  rintro e w5 ⟨rfl, b5⟩
  have B6 := hide (chain B5.out b5)
  have N6 := hide (NX.out.below b5)
  have W6 := hide (WX.out.below b5)
  clear b5 B5 NX WX HB
  go_wp2_with fail
  refine (HF.out _).mono ?_
  rintro e w6 ⟨rfl, hw6⟩
  obtain rfl : w5 = w6 := hw6.symm
  have r0 := N6.out.cell 0 rfl
  have r1 := N6.out.cell 1 rfl
  have r2 := N6.out.cell 2 rfl
  have g0 := N6.out.free 0
  have g1 := N6.out.free 1
  have g2 := N6.out.free 2
  have x0 := W6.out.cell 0 rfl
  have x1 := W6.out.cell 1 rfl
  have x2 := W6.out.cell 2 rfl
  have y0 := W6.out.free 0
  have y1 := W6.out.free 1
  have y2 := W6.out.free 2
  go_wp2_with fail
  refine bodyPost_ret (v := .agg #[.bool (false), .bool (false), .bool (!ft)]) (by simp [results, go_sem, r0, r1, r2]) rfl ?_
  refine ⟨by rw [E.out]; rfl, ?_⟩
  exact ((((((B6.out.setCell (Nat.le_of_lt lt4) _).setCell (Nat.le_of_lt lt4) _).setCell (Nat.le_of_lt lt4) _).setCell (Nat.le_refl _) _).setCell (Nat.le_refl _) _).setCell (Nat.le_refl _) _)

set_option maxHeartbeats 8000000 in
set_option maxRecDepth 100000 in
theorem refFlags_111yt10 (k : Int) (v : Value) (ax : List (ByteArray × ByteArray)) (s : ByteArray) (w : World) (hv : AttrsV w v ax) (hz : AxOK ax) (hs : s.size ≤ 100000) {n lo hi st : Int} (hN : numK k s.data.toList = some n) (hL : leastK k ax = some lo) (hM : mostK k ax = some hi) (hS : stepK k ax = some st) (hk : k = 11) (hlt : hi < lo) (ha : hi < n) (hb : ¬ n < lo) :
    Calls Tryz.prog 15 #[.int .i64 k, v, .string s] w fun e w' => e = .returned (flagV (flagsK k ax s.data.toList)) ∧ Below w.heap.size w w' := by
  have HV := hide (fun W => refValue_any k s W hs)
  rw [hN, opt_some] at HV
  have HL := hide (fun W (hb : Below w.heap.size w W) => refLeastK_any k v ax W (hv.below hb) hz)
  rw [hL, opt_some] at HL
  have HM := hide (fun W (hb : Below w.heap.size w W) => refMostK_any k v ax W (hv.below hb) hz)
  rw [hM, opt_some] at HM
  have HS := hide (fun W (hb : Below w.heap.size w W) => refStepK_any k v ax W (hv.below hb) hz)
  rw [hS, opt_some] at HS
  have HB := hide (fun W (hb : Below w.heap.size w W) => refBaseK_any k v ax W (hv.below hb) hz)
  have HF := hide (fun W => refFits_any n (baseK k ax) st W (by have := num_range hN; omega) (by have := num_range hN; omega) (by have := base_range k ax; omega) (by have := base_range k ax; omega) (by have := step_range k ax hS; omega) (by have := step_range k ax hS; omega))
  have E : Hid (flagsK k ax s.data.toList = (false, false, !fitV n (baseK k ax) st)) := by
    show _ = _
    unfold flagsK
    rw [hN, hL, hM, hS]
    show flagsG k n (some lo) (some hi) (some st) (baseK k ax) = _
    unfold flagsG
    rw [if_pos (show turnG k (some lo) (some hi) = true from by subst hk; show (true && (true && (true && decide (hi < lo)))) = true; rw [decide_eq_true hlt]; rfl)]
    show (decide (hi < n) && decide (n < lo), decide (hi < n) && decide (n < lo), _) = _
    rw [decide_eq_true ha, decide_eq_false hb]; rfl
  obtain ⟨p, c, rfl, _⟩ := hv
  generalize fitV n (baseK k ax) st = ft at *
  generalize baseK k ax = bs at *
  have k11 : (k == 11) = true := by rw [hk]; rfl
  have d1 : decide (hi < lo) = true := decide_eq_true hlt
  have d2 : decide (hi < n) = true := decide_eq_true ha
  have d3 : decide (n < lo) = false := decide_eq_false hb
  clear hN hs hz hL hM hS
  have B0 : Hid (Below w.heap.size w (w.alloc (.cells #[.bool false, .bool false, .bool false] 31))) := (Below.refl _ w).alloc (Nat.le_refl _) _
  have N0 := hide (Bk.new w [.bool false, .bool false, .bool false] 31)
  subst hk
  go_enter Tryz.func15, Tryz.ntmps15
  go_wp2_with fail
  generalize w.alloc (.cells #[.bool false, .bool false, .bool false] 31) = w0 at *
  refine (HV.out _).mono ?_
  rintro e w1 ⟨rfl, b1⟩
  have B1 := hide (chain B0.out b1)
  have N1 := hide (N0.out.below b1)
  clear b1 B0 N0 HV
  go_wp2_with fail
  refine (HL.out _ B1.out).mono ?_
  rintro e w2 ⟨rfl, b2⟩
  have B2 := hide (chain B1.out b2)
  have N2 := hide (N1.out.below b2)
  clear b2 B1 N1 HL
  go_wp2_with fail
  refine (HM.out _ B2.out).mono ?_
  rintro e w3 ⟨rfl, b3⟩
  have B3 := hide (chain B2.out b3)
  have N3 := hide (N2.out.below b3)
  clear b3 B2 N2 HM
  go_wp2_with fail
  refine (HS.out _ B3.out).mono ?_
  rintro e w4 ⟨rfl, b4⟩
  have B4 := hide (chain B3.out b4)
  have N4 := hide (N3.out.below b4)
  clear b4 B3 N3 HS
  have BX : Hid (Below w4.heap.size w4 (w4.alloc (.cells #[.bool (false), .bool (true), .bool false] 31))) := (Below.refl _ w4).alloc (Nat.le_refl _) _
  have WX := hide (Bk.new w4 [.bool (false), .bool (true), .bool false] 31)
  go_upto_region 8 with fail
  generalize w4.alloc (.cells #[.bool (false), .bool (true), .bool false] 31) = x4 at *
  have NX := hide (N4.out.below BX.out)
  have B5 := hide (chain B4.out BX.out)
  have lt4 : w.heap.size < w4.heap.size := N4.out.lt
  have ne4 : w.heap.size ≠ w4.heap.size := by omega
  have ne5 : ¬ w4.heap.size = w.heap.size := by omega
  clear N4 BX
  go_wp2_with fail
  refine (HB.out _ B5.out).mono ?_
  rintro e w5 ⟨rfl, b5⟩
  have B6 := hide (chain B5.out b5)
  have N6 := hide (NX.out.below b5)
  have W6 := hide (WX.out.below b5)
  clear b5 B5 NX WX HB
  go_wp2_with fail
  refine (HF.out _).mono ?_
  rintro e w6 ⟨rfl, hw6⟩
  obtain rfl : w5 = w6 := hw6.symm
  have r0 := N6.out.cell 0 rfl
  have r1 := N6.out.cell 1 rfl
  have r2 := N6.out.cell 2 rfl
  have g0 := N6.out.free 0
  have g1 := N6.out.free 1
  have g2 := N6.out.free 2
  have x0 := W6.out.cell 0 rfl
  have x1 := W6.out.cell 1 rfl
  have x2 := W6.out.cell 2 rfl
  have y0 := W6.out.free 0
  have y1 := W6.out.free 1
  have y2 := W6.out.free 2
  go_wp2_with fail
  refine bodyPost_ret (v := .agg #[.bool (false), .bool (false), .bool (!ft)]) (by simp [results, go_sem, r0, r1, r2]) rfl ?_
  refine ⟨by rw [E.out]; rfl, ?_⟩
  exact ((((((B6.out.setCell (Nat.le_of_lt lt4) _).setCell (Nat.le_of_lt lt4) _).setCell (Nat.le_of_lt lt4) _).setCell (Nat.le_refl _) _).setCell (Nat.le_refl _) _).setCell (Nat.le_refl _) _)

set_option maxHeartbeats 8000000 in
set_option maxRecDepth 100000 in
theorem refFlags_111yt11 (k : Int) (v : Value) (ax : List (ByteArray × ByteArray)) (s : ByteArray) (w : World) (hv : AttrsV w v ax) (hz : AxOK ax) (hs : s.size ≤ 100000) {n lo hi st : Int} (hN : numK k s.data.toList = some n) (hL : leastK k ax = some lo) (hM : mostK k ax = some hi) (hS : stepK k ax = some st) (hk : k = 11) (hlt : hi < lo) (ha : hi < n) (hb : n < lo) :
    Calls Tryz.prog 15 #[.int .i64 k, v, .string s] w fun e w' => e = .returned (flagV (flagsK k ax s.data.toList)) ∧ Below w.heap.size w w' := by
  have HV := hide (fun W => refValue_any k s W hs)
  rw [hN, opt_some] at HV
  have HL := hide (fun W (hb : Below w.heap.size w W) => refLeastK_any k v ax W (hv.below hb) hz)
  rw [hL, opt_some] at HL
  have HM := hide (fun W (hb : Below w.heap.size w W) => refMostK_any k v ax W (hv.below hb) hz)
  rw [hM, opt_some] at HM
  have HS := hide (fun W (hb : Below w.heap.size w W) => refStepK_any k v ax W (hv.below hb) hz)
  rw [hS, opt_some] at HS
  have HB := hide (fun W (hb : Below w.heap.size w W) => refBaseK_any k v ax W (hv.below hb) hz)
  have HF := hide (fun W => refFits_any n (baseK k ax) st W (by have := num_range hN; omega) (by have := num_range hN; omega) (by have := base_range k ax; omega) (by have := base_range k ax; omega) (by have := step_range k ax hS; omega) (by have := step_range k ax hS; omega))
  have E : Hid (flagsK k ax s.data.toList = (true, true, !fitV n (baseK k ax) st)) := by
    show _ = _
    unfold flagsK
    rw [hN, hL, hM, hS]
    show flagsG k n (some lo) (some hi) (some st) (baseK k ax) = _
    unfold flagsG
    rw [if_pos (show turnG k (some lo) (some hi) = true from by subst hk; show (true && (true && (true && decide (hi < lo)))) = true; rw [decide_eq_true hlt]; rfl)]
    show (decide (hi < n) && decide (n < lo), decide (hi < n) && decide (n < lo), _) = _
    rw [decide_eq_true ha, decide_eq_true hb]; rfl
  obtain ⟨p, c, rfl, _⟩ := hv
  generalize fitV n (baseK k ax) st = ft at *
  generalize baseK k ax = bs at *
  have k11 : (k == 11) = true := by rw [hk]; rfl
  have d1 : decide (hi < lo) = true := decide_eq_true hlt
  have d2 : decide (hi < n) = true := decide_eq_true ha
  have d3 : decide (n < lo) = true := decide_eq_true hb
  clear hN hs hz hL hM hS
  have B0 : Hid (Below w.heap.size w (w.alloc (.cells #[.bool false, .bool false, .bool false] 31))) := (Below.refl _ w).alloc (Nat.le_refl _) _
  have N0 := hide (Bk.new w [.bool false, .bool false, .bool false] 31)
  subst hk
  go_enter Tryz.func15, Tryz.ntmps15
  go_wp2_with fail
  generalize w.alloc (.cells #[.bool false, .bool false, .bool false] 31) = w0 at *
  refine (HV.out _).mono ?_
  rintro e w1 ⟨rfl, b1⟩
  have B1 := hide (chain B0.out b1)
  have N1 := hide (N0.out.below b1)
  clear b1 B0 N0 HV
  go_wp2_with fail
  refine (HL.out _ B1.out).mono ?_
  rintro e w2 ⟨rfl, b2⟩
  have B2 := hide (chain B1.out b2)
  have N2 := hide (N1.out.below b2)
  clear b2 B1 N1 HL
  go_wp2_with fail
  refine (HM.out _ B2.out).mono ?_
  rintro e w3 ⟨rfl, b3⟩
  have B3 := hide (chain B2.out b3)
  have N3 := hide (N2.out.below b3)
  clear b3 B2 N2 HM
  go_wp2_with fail
  refine (HS.out _ B3.out).mono ?_
  rintro e w4 ⟨rfl, b4⟩
  have B4 := hide (chain B3.out b4)
  have N4 := hide (N3.out.below b4)
  clear b4 B3 N3 HS
  have BX : Hid (Below w4.heap.size w4 (w4.alloc (.cells #[.bool (true), .bool (true), .bool false] 31))) := (Below.refl _ w4).alloc (Nat.le_refl _) _
  have WX := hide (Bk.new w4 [.bool (true), .bool (true), .bool false] 31)
  go_upto_region 8 with fail
  generalize w4.alloc (.cells #[.bool (true), .bool (true), .bool false] 31) = x4 at *
  have NX := hide (N4.out.below BX.out)
  have B5 := hide (chain B4.out BX.out)
  have lt4 : w.heap.size < w4.heap.size := N4.out.lt
  have ne4 : w.heap.size ≠ w4.heap.size := by omega
  have ne5 : ¬ w4.heap.size = w.heap.size := by omega
  clear N4 BX
  go_wp2_with fail
  refine (HB.out _ B5.out).mono ?_
  rintro e w5 ⟨rfl, b5⟩
  have B6 := hide (chain B5.out b5)
  have N6 := hide (NX.out.below b5)
  have W6 := hide (WX.out.below b5)
  clear b5 B5 NX WX HB
  go_wp2_with fail
  refine (HF.out _).mono ?_
  rintro e w6 ⟨rfl, hw6⟩
  obtain rfl : w5 = w6 := hw6.symm
  have r0 := N6.out.cell 0 rfl
  have r1 := N6.out.cell 1 rfl
  have r2 := N6.out.cell 2 rfl
  have g0 := N6.out.free 0
  have g1 := N6.out.free 1
  have g2 := N6.out.free 2
  have x0 := W6.out.cell 0 rfl
  have x1 := W6.out.cell 1 rfl
  have x2 := W6.out.cell 2 rfl
  have y0 := W6.out.free 0
  have y1 := W6.out.free 1
  have y2 := W6.out.free 2
  go_wp2_with fail
  refine bodyPost_ret (v := .agg #[.bool (true), .bool (true), .bool (!ft)]) (by simp [results, go_sem, r0, r1, r2]) rfl ?_
  refine ⟨by rw [E.out]; rfl, ?_⟩
  exact ((((((B6.out.setCell (Nat.le_of_lt lt4) _).setCell (Nat.le_of_lt lt4) _).setCell (Nat.le_of_lt lt4) _).setCell (Nat.le_refl _) _).setCell (Nat.le_refl _) _).setCell (Nat.le_refl _) _)

theorem refFlags_any (k : Int) (v : Value) (ax : List (ByteArray × ByteArray)) (s : ByteArray) (w : World) (hv : AttrsV w v ax) (hz : AxOK ax) (hs : s.size ≤ 100000) :
    Calls Tryz.prog 15 #[.int .i64 k, v, .string s] w fun e w' => e = .returned (flagV (flagsK k ax s.data.toList)) ∧ Below w.heap.size w w' := by
  cases hN : numK k s.data.toList with
  | none => exact refFlags_none k v ax s w hv hs hN
  | some n =>
    cases hS : stepK k ax with
    | none =>
      cases hL : leastK k ax with
      | none =>
        cases hM : mostK k ax with
        | none =>
          by_cases hk : k = 11
          · exact refFlags_000y k v ax s w hv hz hs hN hL hM hS hk
          · exact refFlags_000n k v ax s w hv hz hs hN hL hM hS hk
        | some hi =>
          by_cases hk : k = 11
          · exact refFlags_010y k v ax s w hv hz hs hN hL hM hS hk
          · exact refFlags_010n k v ax s w hv hz hs hN hL hM hS hk
      | some lo =>
        cases hM : mostK k ax with
        | none =>
          by_cases hk : k = 11
          · exact refFlags_100y k v ax s w hv hz hs hN hL hM hS hk
          · exact refFlags_100n k v ax s w hv hz hs hN hL hM hS hk
        | some hi =>
          by_cases hk : k = 11
          · by_cases hlt : hi < lo
            · by_cases ha : hi < n
              · by_cases hb : n < lo
                · exact refFlags_110yt11 k v ax s w hv hz hs hN hL hM hS hk hlt ha hb
                · exact refFlags_110yt10 k v ax s w hv hz hs hN hL hM hS hk hlt ha hb
              · exact refFlags_110yt01 k v ax s w hv hz hs hN hL hM hS hk hlt ha (by omega)
            · exact refFlags_110yf k v ax s w hv hz hs hN hL hM hS hk hlt
          · exact refFlags_110n k v ax s w hv hz hs hN hL hM hS hk
    | some st =>
      cases hL : leastK k ax with
      | none =>
        cases hM : mostK k ax with
        | none =>
          by_cases hk : k = 11
          · exact refFlags_001y k v ax s w hv hz hs hN hL hM hS hk
          · exact refFlags_001n k v ax s w hv hz hs hN hL hM hS hk
        | some hi =>
          by_cases hk : k = 11
          · exact refFlags_011y k v ax s w hv hz hs hN hL hM hS hk
          · exact refFlags_011n k v ax s w hv hz hs hN hL hM hS hk
      | some lo =>
        cases hM : mostK k ax with
        | none =>
          by_cases hk : k = 11
          · exact refFlags_101y k v ax s w hv hz hs hN hL hM hS hk
          · exact refFlags_101n k v ax s w hv hz hs hN hL hM hS hk
        | some hi =>
          by_cases hk : k = 11
          · by_cases hlt : hi < lo
            · by_cases ha : hi < n
              · by_cases hb : n < lo
                · exact refFlags_111yt11 k v ax s w hv hz hs hN hL hM hS hk hlt ha hb
                · exact refFlags_111yt10 k v ax s w hv hz hs hN hL hM hS hk hlt ha hb
              · exact refFlags_111yt01 k v ax s w hv hz hs hN hL hM hS hk hlt ha (by omega)
            · exact refFlags_111yf k v ax s w hv hz hs hN hL hM hS hk hlt
          · exact refFlags_111n k v ax s w hv hz hs hN hL hM hS hk
end Go.Proofs.YtpkpkpiphgjbaaaGreatDoor
