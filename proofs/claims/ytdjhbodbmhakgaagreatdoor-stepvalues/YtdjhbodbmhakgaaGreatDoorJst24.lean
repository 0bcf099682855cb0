/- Joined texts. StepProg: The program's Flags of layer 12: it answers by the function of 'StepP'; what lay in the world lies there still. Conditions: as in 'StepS2'. -/
import Derived.Test.YtdjhbodbmhakgaaGreatDoorJst20
import Derived.Test.YtdjhbodbmhakgaaGreatDoorJst22
import Derived.Test.YtdjhbodbmhakgaaGreatDoorJst23
namespace Go.Proofs.YtdjhbodbmhakgaaGreatDoor
open Go.RowKit

theorem belD {B : Nat} {a w : World} (h : Below B a w) (n : Nat) : Below B a (w.drewN n) := ⟨h.os, h.tape, h.output, h.size, h.block⟩
def flag3 (f : Bool × Bool × Bool) : Value := .tuple #[.bool f.1, .bool f.2.1, .bool f.2.2]

set_option maxHeartbeats 8000000 in
set_option maxRecDepth 100000 in
theorem stFlags_none (k : Int) (v : Value) (ax : List (ByteArray × ByteArray)) (s : ByteArray) (w : World) (hv : AttrsV w v ax) (hs : s.size ≤ 100000) (hT : StTabs w) (hN : numK k s.data.toList = none) :
    Calls Tryz.prog 22 #[.int .i64 k, v, .string s] w fun e w' => e = .returned (flag3 (flagsK k ax s.data.toList)) ∧ Below w.heap.size w w' := by
  have HV := hide (stValue_any k s w hs hT)
  have E : Hid (flagsK k ax s.data.toList = (false, false, false)) := by show _ = _; unfold flagsK; rw [hN]
  rw [hN, opt_none] at HV
  obtain ⟨p, c, rfl, _⟩ := hv
  clear hN hs hT
  go_enter Tryz.func22, Tryz.ntmps22
  go_wp2_with fail
  refine HV.out.mono ?_
  rintro e w1 ⟨rfl, b1⟩
  go_wp2_with fail
  go_ret3
  exact ⟨by rw [E.out]; rfl, b1⟩

set_option maxHeartbeats 8000000 in
set_option maxRecDepth 100000 in
theorem stFlags_000n (k : Int) (v : Value) (ax : List (ByteArray × ByteArray)) (s : ByteArray) (w : World) (hv : AttrsV w v ax) (hz : AxOK ax) (hs : s.size ≤ 100000) (hT : StTabs w) {n : Int} (hN : numK k s.data.toList = some n) (hL : leastK k ax = none) (hM : mostK k ax = none) (hS : stepK k ax = none) (hk : ¬ k = 11) :
    Calls Tryz.prog 22 #[.int .i64 k, v, .string s] w fun e w' => e = .returned (flag3 (flagsK k ax s.data.toList)) ∧ Below w.heap.size w w' := by
  have HV := hide (stValue_any k s w hs hT)
  rw [hN, opt_some] at HV
  have HL := hide (fun W (hb : Below w.heap.size w W) => stLeast_any k v ax W (hv.below hb) hz (hT.below hb))
  rw [hL, opt_none] at HL
  have HM := hide (fun W (hb : Below w.heap.size w W) => stMost_any k v ax W (hv.below hb) hz (hT.below hb))
  rw [hM, opt_none] at HM
  have HS := hide (fun W (hb : Below w.heap.size w W) => stStep_any k v ax W (hv.below hb) hz (hT.below hb))
  rw [hS, opt_none] at HS
  have E : Hid (flagsK k ax s.data.toList = (false, false, false)) := by
    show _ = _
    unfold flagsK
    rw [hN, hL, hM, hS]
    show flagsG k n none none none (baseK k ax) = _
    unfold flagsG
    rw [if_neg (show ¬ turnG k none none = true from by rw [show turnG k none none = false from turn_left k _]; decide)]
    rfl
  obtain ⟨p, c, rfl, _⟩ := hv
  have k11 : (k == 11) = false := by exact beq_eq_false_iff_ne.2 hk
  clear hN hs hz hL hM hS hT
  go_enter Tryz.func22, Tryz.ntmps22
  go_wp2_with fail
  refine HV.out.mono ?_
  rintro e w1 ⟨rfl, b1⟩
  replace b1 := hide b1
  clear HV
  go_wp2_with fail
  refine (HL.out _ b1.out).mono ?_
  rintro e w2 ⟨rfl, b2⟩
  have B2 := hide (chain b1.out b2)
  clear b2 b1 HL
  go_wp2_with fail
  refine (HM.out _ B2.out).mono ?_
  rintro e w3 ⟨rfl, b3⟩
  have B3 := hide (chain B2.out b3)
  clear b3 B2 HM
  go_wp2_with fail
  refine (HS.out _ B3.out).mono ?_
  rintro e w4 ⟨rfl, b4⟩
  have B4 := hide (chain B3.out b4)
  clear b4 B3 HS
  go_wp2_with fail
  go_ret3
  exact ⟨by rw [E.out]; rfl, B4.out⟩

set_option maxHeartbeats 8000000 in
set_option maxRecDepth 100000 in
theorem stFlags_000y (k : Int) (v : Value) (ax : List (ByteArray × ByteArray)) (s : ByteArray) (w : World) (hv : AttrsV w v ax) (hz : AxOK ax) (hs : s.size ≤ 100000) (hT : StTabs w) {n : Int} (hN : numK k s.data.toList = some n) (hL : leastK k ax = none) (hM : mostK k ax = none) (hS : stepK k ax = none) (hk : k = 11) :
    Calls Tryz.prog 22 #[.int .i64 k, v, .string s] w fun e w' => e = .returned (flag3 (flagsK k ax s.data.toList)) ∧ Below w.heap.size w w' := by
  have HV := hide (stValue_any k s w hs hT)
  rw [hN, opt_some] at HV
  have HL := hide (fun W (hb : Below w.heap.size w W) => stLeast_any k v ax W (hv.below hb) hz (hT.below hb))
  rw [hL, opt_none] at HL
  have HM := hide (fun W (hb : Below w.heap.size w W) => stMost_any k v ax W (hv.below hb) hz (hT.below hb))
  rw [hM, opt_none] at HM
  have HS := hide (fun W (hb : Below w.heap.size w W) => stStep_any k v ax W (hv.below hb) hz (hT.below hb))
  rw [hS, opt_none] at HS
  have E : Hid (flagsK k ax s.data.toList = (false, false, false)) := by
    show _ = _
    unfold flagsK
    rw [hN, hL, hM, hS]
    show flagsG k n none none none (baseK k ax) = _
    unfold flagsG
    rw [if_neg (show ¬ turnG k none none = true from by rw [show turnG k none none = false from turn_left k _]; decide)]
    rfl
  obtain ⟨p, c, rfl, _⟩ := hv
  have k11 : (k == 11) = true := by rw [hk]; rfl
  clear hN hs hz hL hM hS hT
  subst hk
  go_enter Tryz.func22, Tryz.ntmps22
  go_wp2_with fail
  refine HV.out.mono ?_
  rintro e w1 ⟨rfl, b1⟩
  replace b1 := hide b1
  clear HV
  go_wp2_with fail
  refine (HL.out _ b1.out).mono ?_
  rintro e w2 ⟨rfl, b2⟩
  have B2 := hide (chain b1.out b2)
  clear b2 b1 HL
  go_wp2_with fail
  refine (HM.out _ B2.out).mono ?_
  rintro e w3 ⟨rfl, b3⟩
  have B3 := hide (chain B2.out b3)
  clear b3 B2 HM
  go_wp2_with fail
  refine (HS.out _ B3.out).mono ?_
  rintro e w4 ⟨rfl, b4⟩
  have B4 := hide (chain B3.out b4)
  clear b4 B3 HS
  go_wp2_with fail
  go_ret3
  exact ⟨by rw [E.out]; rfl, B4.out⟩

set_option maxHeartbeats 8000000 in
set_option maxRecDepth 100000 in
theorem stFlags_010n (k : Int) (v : Value) (ax : List (ByteArray × ByteArray)) (s : ByteArray) (w : World) (hv : AttrsV w v ax) (hz : AxOK ax) (hs : s.size ≤ 100000) (hT : StTabs w) {n hi : Int} (hN : numK k s.data.toList = some n) (hL : leastK k ax = none) (hM : mostK k ax = some hi) (hS : stepK k ax = none) (hk : ¬ k = 11) :
    Calls Tryz.prog 22 #[.int .i64 k, v, .string s] w fun e w' => e = .returned (flag3 (flagsK k ax s.data.toList)) ∧ Below w.heap.size w w' := by
  have HV := hide (stValue_any k s w hs hT)
  rw [hN, opt_some] at HV
  have HL := hide (fun W (hb : Below w.heap.size w W) => stLeast_any k v ax W (hv.below hb) hz (hT.below hb))
  rw [hL, opt_none] at HL
  have HM := hide (fun W (hb : Below w.heap.size w W) => stMost_any k v ax W (hv.below hb) hz (hT.below hb))
  rw [hM, opt_some] at HM
  have HS := hide (fun W (hb : Below w.heap.size w W) => stStep_any k v ax W (hv.below hb) hz (hT.below hb))
  rw [hS, opt_none] at HS
  have E : Hid (flagsK k ax s.data.toList = (false, decide (hi < n), false)) := by
    show _ = _
    unfold flagsK
    rw [hN, hL, hM, hS]
    show flagsG k n none (some hi) none (baseK k ax) = _
    unfold flagsG
    rw [if_neg (show ¬ turnG k none (some hi) = true from by rw [show turnG k none (some hi) = false from turn_left k _]; decide)]
    rfl
  obtain ⟨p, c, rfl, _⟩ := hv
  have k11 : (k == 11) = false := by exact beq_eq_false_iff_ne.2 hk
  clear hN hs hz hL hM hS hT
  go_enter Tryz.func22, Tryz.ntmps22
  go_wp2_with fail
  refine HV.out.mono ?_
  rintro e w1 ⟨rfl, b1⟩
  replace b1 := hide b1
  clear HV
  go_wp2_with fail
  refine (HL.out _ b1.out).mono ?_
  rintro e w2 ⟨rfl, b2⟩
  have B2 := hide (chain b1.out b2)
  clear b2 b1 HL
  go_wp2_with fail
  refine (HM.out _ B2.out).mono ?_
  rintro e w3 ⟨rfl, b3⟩
  have B3 := hide (chain B2.out b3)
  clear b3 B2 HM
  go_wp2_with fail
  refine (HS.out _ B3.out).mono ?_
  rintro e w4 ⟨rfl, b4⟩
  have B4 := hide (chain B3.out b4)
  clear b4 B3 HS
  go_wp2_with fail
  go_ret3
  exact ⟨by rw [E.out]; rfl, B4.out⟩

set_option maxHeartbeats 8000000 in
set_option maxRecDepth 100000 in
theorem stFlags_010y (k : Int) (v : Value) (ax : List (ByteArray × ByteArray)) (s : ByteArray) (w : World) (hv : AttrsV w v ax) (hz : AxOK ax) (hs : s.size ≤ 100000) (hT : StTabs w) {n hi : Int} (hN : numK k s.data.toList = some n) (hL : leastK k ax = none) (hM : mostK k ax = some hi) (hS : stepK k ax = none) (hk : k = 11) :
    Calls Tryz.prog 22 #[.int .i64 k, v, .string s] w fun e w' => e = .returned (flag3 (flagsK k ax s.data.toList)) ∧ Below w.heap.size w w' := by
  have HV := hide (stValue_any k s w hs hT)
  rw [hN, opt_some] at HV
  have HL := hide (fun W (hb : Below w.heap.size w W) => stLeast_any k v ax W (hv.below hb) hz (hT.below hb))
  rw [hL, opt_none] at HL
  have HM := hide (fun W (hb : Below w.heap.size w W) => stMost_any k v ax W (hv.below hb) hz (hT.below hb))
  rw [hM, opt_some] at HM
  have HS := hide (fun W (hb : Below w.heap.size w W) => stStep_any k v ax W (hv.below hb) hz (hT.below hb))
  rw [hS, opt_none] at HS
  have E : Hid (flagsK k ax s.data.toList = (false, decide (hi < n), false)) := by
    show _ = _
    unfold flagsK
    rw [hN, hL, hM, hS]
    show flagsG k n none (some hi) none (baseK k ax) = _
    unfold flagsG
    rw [if_neg (show ¬ turnG k none (some hi) = true from by rw [show turnG k none (some hi) = false from turn_left k _]; decide)]
    rfl
  obtain ⟨p, c, rfl, _⟩ := hv
  have k11 : (k == 11) = true := by rw [hk]; rfl
  clear hN hs hz hL hM hS hT
  subst hk
  go_enter Tryz.func22, Tryz.ntmps22
  go_wp2_with fail
  refine HV.out.mono ?_
  rintro e w1 ⟨rfl, b1⟩
  replace b1 := hide b1
  clear HV
  go_wp2_with fail
  refine (HL.out _ b1.out).mono ?_
  rintro e w2 ⟨rfl, b2⟩
  have B2 := hide (chain b1.out b2)
  clear b2 b1 HL
  go_wp2_with fail
  refine (HM.out _ B2.out).mono ?_
  rintro e w3 ⟨rfl, b3⟩
  have B3 := hide (chain B2.out b3)
  clear b3 B2 HM
  go_wp2_with fail
  refine (HS.out _ B3.out).mono ?_
  rintro e w4 ⟨rfl, b4⟩
  have B4 := hide (chain B3.out b4)
  clear b4 B3 HS
  go_wp2_with fail
  go_ret3
  exact ⟨by rw [E.out]; rfl, B4.out⟩

set_option maxHeartbeats 8000000 in
set_option maxRecDepth 100000 in
theorem stFlags_100n (k : Int) (v : Value) (ax : List (ByteArray × ByteArray)) (s : ByteArray) (w : World) (hv : AttrsV w v ax) (hz : AxOK ax) (hs : s.size ≤ 100000) (hT : StTabs w) {n lo : Int} (hN : numK k s.data.toList = some n) (hL : leastK k ax = some lo) (hM : mostK k ax = none) (hS : stepK k ax = none) (hk : ¬ k = 11) :
    Calls Tryz.prog 22 #[.int .i64 k, v, .string s] w fun e w' => e = .returned (flag3 (flagsK k ax s.data.toList)) ∧ Below w.heap.size w w' := by
  have HV := hide (stValue_any k s w hs hT)
  rw [hN, opt_some] at HV
  have HL := hide (fun W (hb : Below w.heap.size w W) => stLeast_any k v ax W (hv.below hb) hz (hT.below hb))
  rw [hL, opt_some] at HL
  have HM := hide (fun W (hb : Below w.heap.size w W) => stMost_any k v ax W (hv.below hb) hz (hT.below hb))
  rw [hM, opt_none] at HM
  have HS := hide (fun W (hb : Below w.heap.size w W) => stStep_any k v ax W (hv.below hb) hz (hT.below hb))
  rw [hS, opt_none] at HS
  have E : Hid (flagsK k ax s.data.toList = (decide (n < lo), false, false)) := by
    show _ = _
    unfold flagsK
    rw [hN, hL, hM, hS]
    show flagsG k n (some lo) none none (baseK k ax) = _
    unfold flagsG
    rw [if_neg (show ¬ turnG k (some lo) none = true from by rw [show turnG k (some lo) none = false from turn_right k _]; decide)]
    rfl
  obtain ⟨p, c, rfl, _⟩ := hv
  have k11 : (k == 11) = false := by exact beq_eq_false_iff_ne.2 hk
  clear hN hs hz hL hM hS hT
  go_enter Tryz.func22, Tryz.ntmps22
  go_wp2_with fail
  refine HV.out.mono ?_
  rintro e w1 ⟨rfl, b1⟩
  replace b1 := hide b1
  clear HV
  go_wp2_with fail
  refine (HL.out _ b1.out).mono ?_
  rintro e w2 ⟨rfl, b2⟩
  have B2 := hide (chain b1.out b2)
  clear b2 b1 HL
  go_wp2_with fail
  refine (HM.out _ B2.out).mono ?_
  rintro e w3 ⟨rfl, b3⟩
  have B3 := hide (chain B2.out b3)
  clear b3 B2 HM
  go_wp2_with fail
  refine (HS.out _ B3.out).mono ?_
  rintro e w4 ⟨rfl, b4⟩
  have B4 := hide (chain B3.out b4)
  clear b4 B3 HS
  go_wp2_with fail
  go_ret3
  exact ⟨by rw [E.out]; rfl, B4.out⟩

set_option maxHeartbeats 8000000 in
set_option maxRecDepth 100000 in
theorem stFlags_100y (k : Int) (v : Value) (ax : List (ByteArray × ByteArray)) (s : ByteArray) (w : World) (hv : AttrsV w v ax) (hz : AxOK ax) (hs : s.size ≤ 100000) (hT : StTabs w) {n lo : Int} (hN : numK k s.data.toList = some n) (hL : leastK k ax = some lo) (hM : mostK k ax = none) (hS : stepK k ax = none) (hk : k = 11) :
    Calls Tryz.prog 22 #[.int .i64 k, v, .string s] w fun e w' => e = .returned (flag3 (flagsK k ax s.data.toList)) ∧ Below w.heap.size w w' := by
  have HV := hide (stValue_any k s w hs hT)
  rw [hN, opt_some] at HV
  have HL := hide (fun W (hb : Below w.heap.size w W) => stLeast_any k v ax W (hv.below hb) hz (hT.below hb))
  rw [hL, opt_some] at HL
  have HM := hide (fun W (hb : Below w.heap.size w W) => stMost_any k v ax W (hv.below hb) hz (hT.below hb))
  rw [hM, opt_none] at HM
  have HS := hide (fun W (hb : Below w.heap.size w W) => stStep_any k v ax W (hv.below hb) hz (hT.below hb))
  rw [hS, opt_none] at HS
  have E : Hid (flagsK k ax s.data.toList = (decide (n < lo), false, false)) := by
    show _ = _
    unfold flagsK
    rw [hN, hL, hM, hS]
    show flagsG k n (some lo) none none (baseK k ax) = _
    unfold flagsG
    rw [if_neg (show ¬ turnG k (some lo) none = true from by rw [show turnG k (some lo) none = false from turn_right k _]; decide)]
    rfl
  obtain ⟨p, c, rfl, _⟩ := hv
  have k11 : (k == 11) = true := by rw [hk]; rfl
  clear hN hs hz hL hM hS hT
  subst hk
  go_enter Tryz.func22, Tryz.ntmps22
  go_wp2_with fail
  refine HV.out.mono ?_
  rintro e w1 ⟨rfl, b1⟩
  replace b1 := hide b1
  clear HV
  go_wp2_with fail
  refine (HL.out _ b1.out).mono ?_
  rintro e w2 ⟨rfl, b2⟩
  have B2 := hide (chain b1.out b2)
  clear b2 b1 HL
  go_wp2_with fail
  refine (HM.out _ B2.out).mono ?_
  rintro e w3 ⟨rfl, b3⟩
  have B3 := hide (chain B2.out b3)
  clear b3 B2 HM
  go_wp2_with fail
  refine (HS.out _ B3.out).mono ?_
  rintro e w4 ⟨rfl, b4⟩
  have B4 := hide (chain B3.out b4)
  clear b4 B3 HS
  go_wp2_with fail
  go_ret3
  exact ⟨by rw [E.out]; rfl, B4.out⟩

set_option maxHeartbeats 8000000 in
set_option maxRecDepth 100000 in
theorem stFlags_110n (k : Int) (v : Value) (ax : List (ByteArray × ByteArray)) (s : ByteArray) (w : World) (hv : AttrsV w v ax) (hz : AxOK ax) (hs : s.size ≤ 100000) (hT : StTabs w) {n lo hi : Int} (hN : numK k s.data.toList = some n) (hL : leastK k ax = some lo) (hM : mostK k ax = some hi) (hS : stepK k ax = none) (hk : ¬ k = 11) :
    Calls Tryz.prog 22 #[.int .i64 k, v, .string s] w fun e w' => e = .returned (flag3 (flagsK k ax s.data.toList)) ∧ Below w.heap.size w w' := by
  have HV := hide (stValue_any k s w hs hT)
  rw [hN, opt_some] at HV
  have HL := hide (fun W (hb : Below w.heap.size w W) => stLeast_any k v ax W (hv.below hb) hz (hT.below hb))
  rw [hL, opt_some] at HL
  have HM := hide (fun W (hb : Below w.heap.size w W) => stMost_any k v ax W (hv.below hb) hz (hT.below hb))
  rw [hM, opt_some] at HM
  have HS := hide (fun W (hb : Below w.heap.size w W) => stStep_any k v ax W (hv.below hb) hz (hT.below hb))
  rw [hS, opt_none] at HS
  have E : Hid (flagsK k ax s.data.toList = (decide (n < lo), decide (hi < n), false)) := by
    show _ = _
    unfold flagsK
    rw [hN, hL, hM, hS]
    show flagsG k n (some lo) (some hi) none (baseK k ax) = _
    unfold flagsG
    rw [if_neg (show ¬ turnG k (some lo) (some hi) = true from by rw [show turnG k (some lo) (some hi) = false from by unfold turnG; rw [beq_eq_false_iff_ne.2 hk]; rfl]; decide)]
    rfl
  obtain ⟨p, c, rfl, _⟩ := hv
  have k11 : (k == 11) = false := by exact beq_eq_false_iff_ne.2 hk
  clear hN hs hz hL hM hS hT
  go_enter Tryz.func22, Tryz.ntmps22
  go_wp2_with fail
  refine HV.out.mono ?_
  rintro e w1 ⟨rfl, b1⟩
  replace b1 := hide b1
  clear HV
  go_wp2_with fail
  refine (HL.out _ b1.out).mono ?_
  rintro e w2 ⟨rfl, b2⟩
  have B2 := hide (chain b1.out b2)
  clear b2 b1 HL
  go_wp2_with fail
  refine (HM.out _ B2.out).mono ?_
  rintro e w3 ⟨rfl, b3⟩
  have B3 := hide (chain B2.out b3)
  clear b3 B2 HM
  go_wp2_with fail
  refine (HS.out _ B3.out).mono ?_
  rintro e w4 ⟨rfl, b4⟩
  have B4 := hide (chain B3.out b4)
  clear b4 B3 HS
  go_wp2_with fail
  go_ret3
  exact ⟨by rw [E.out]; rfl, B4.out⟩

set_option maxHeartbeats 8000000 in
set_option maxRecDepth 100000 in
theorem stFlags_110yf (k : Int) (v : Value) (ax : List (ByteArray × ByteArray)) (s : ByteArray) (w : World) (hv : AttrsV w v ax) (hz : AxOK ax) (hs : s.size ≤ 100000) (hT : StTabs w) {n lo hi : Int} (hN : numK k s.data.toList = some n) (hL : leastK k ax = some lo) (hM : mostK k ax = some hi) (hS : stepK k ax = none) (hk : k = 11) (hlt : ¬ hi < lo) :
    Calls Tryz.prog 22 #[.int .i64 k, v, .string s] w fun e w' => e = .returned (flag3 (flagsK k ax s.data.toList)) ∧ Below w.heap.size w w' := by
  have HV := hide (stValue_any k s w hs hT)
  rw [hN, opt_some] at HV
  have HL := hide (fun W (hb : Below w.heap.size w W) => stLeast_any k v ax W (hv.below hb) hz (hT.below hb))
  rw [hL, opt_some] at HL
  have HM := hide (fun W (hb : Below w.heap.size w W) => stMost_any k v ax W (hv.below hb) hz (hT.below hb))
  rw [hM, opt_some] at HM
  have HS := hide (fun W (hb : Below w.heap.size w W) => stStep_any k v ax W (hv.below hb) hz (hT.below hb))
  rw [hS, opt_none] at HS
  have E : Hid (flagsK k ax s.data.toList = (decide (n < lo), decide (hi < n), false)) := by
    show _ = _
    unfold flagsK
    rw [hN, hL, hM, hS]
    show flagsG k n (some lo) (some hi) none (baseK k ax) = _
    unfold flagsG
    rw [if_neg (show ¬ turnG k (some lo) (some hi) = true from by rw [show turnG k (some lo) (some hi) = false from by subst hk; show (true && (true && (true && decide (hi < lo)))) = false; rw [decide_eq_false hlt]; rfl]; decide)]
    rfl
  obtain ⟨p, c, rfl, _⟩ := hv
  have k11 : (k == 11) = true := by rw [hk]; rfl
  have d1 : decide (hi < lo) = false := decide_eq_false hlt
  clear hN hs hz hL hM hS hT
  subst hk
  go_enter Tryz.func22, Tryz.ntmps22
  go_wp2_with fail
  refine HV.out.mono ?_
  rintro e w1 ⟨rfl, b1⟩
  replace b1 := hide b1
  clear HV
  go_wp2_with fail
  refine (HL.out _ b1.out).mono ?_
  rintro e w2 ⟨rfl, b2⟩
  have B2 := hide (chain b1.out b2)
  clear b2 b1 HL
  go_wp2_with fail
  refine (HM.out _ B2.out).mono ?_
  rintro e w3 ⟨rfl, b3⟩
  have B3 := hide (chain B2.out b3)
  clear b3 B2 HM
  go_wp2_with fail
  refine (HS.out _ B3.out).mono ?_
  rintro e w4 ⟨rfl, b4⟩
  have B4 := hide (chain B3.out b4)
  clear b4 B3 HS
  go_wp2_with fail
  go_ret3
  exact ⟨by rw [E.out]; rfl, B4.out⟩

set_option maxHeartbeats 8000000 in
set_option maxRecDepth 100000 in
theorem stFlags_110yt01 (k : Int) (v : Value) (ax : List (ByteArray × ByteArray)) (s : ByteArray) (w : World) (hv : AttrsV w v ax) (hz : AxOK ax) (hs : s.size ≤ 100000) (hT : StTabs w) {n lo hi : Int} (hN : numK k s.data.toList = some n) (hL : leastK k ax = some lo) (hM : mostK k ax = some hi) (hS : stepK k ax = none) (hk : k = 11) (hlt : hi < lo) (ha : ¬ hi < n) (hb : n < lo) :
    Calls Tryz.prog 22 #[.int .i64 k, v, .string s] w fun e w' => e = .returned (flag3 (flagsK k ax s.data.toList)) ∧ Below w.heap.size w w' := by
  have HV := hide (stValue_any k s w hs hT)
  rw [hN, opt_some] at HV
  have HL := hide (fun W (hb : Below w.heap.size w W) => stLeast_any k v ax W (hv.below hb) hz (hT.below hb))
  rw [hL, opt_some] at HL
  have HM := hide (fun W (hb : Below w.heap.size w W) => stMost_any k v ax W (hv.below hb) hz (hT.below hb))
  rw [hM, opt_some] at HM
  have HS := hide (fun W (hb : Below w.heap.size w W) => stStep_any k v ax W (hv.below hb) hz (hT.below hb))
  rw [hS, opt_none] at HS
  have E : Hid (flagsK k ax s.data.toList = (false, false, false)) := by
    show _ = _
    unfold flagsK
    rw [hN, hL, hM, hS]
    show flagsG k n (some lo) (some hi) none (baseK k ax) = _
    unfold flagsG
    rw [if_pos (show turnG k (some lo) (some hi) = true from by subst hk; show (true && (true && (true && decide (hi < lo)))) = true; rw [decide_eq_true hlt]; rfl)]
    show (decide (hi < n) && decide (n < lo), decide (hi < n) && decide (n < lo), _) = _
    rw [decide_eq_false ha, decide_eq_true hb]; rfl
  obtain ⟨p, c, rfl, _⟩ := hv
  have k11 : (k == 11) = true := by rw [hk]; rfl
  have d1 : decide (hi < lo) = true := decide_eq_true hlt
  have d2 : decide (hi < n) = false := decide_eq_false ha
  have d3 : decide (n < lo) = true := decide_eq_true hb
  clear hN hs hz hL hM hS hT
  subst hk
  go_enter Tryz.func22, Tryz.ntmps22
  go_wp2_with fail
  refine HV.out.mono ?_
  rintro e w1 ⟨rfl, b1⟩
  replace b1 := hide b1
  clear HV
  go_wp2_with fail
  refine (HL.out _ b1.out).mono ?_
  rintro e w2 ⟨rfl, b2⟩
  have B2 := hide (chain b1.out b2)
  clear b2 b1 HL
  go_wp2_with fail
  refine (HM.out _ B2.out).mono ?_
  rintro e w3 ⟨rfl, b3⟩
  have B3 := hide (chain B2.out b3)
  clear b3 B2 HM
  go_wp2_with fail
  refine (HS.out _ B3.out).mono ?_
  rintro e w4 ⟨rfl, b4⟩
  have B4 := hide (chain B3.out b4)
  clear b4 B3 HS
  go_wp2_with fail
  go_ret3
  exact ⟨by rw [E.out]; rfl, B4.out⟩

set_option maxHeartbeats 8000000 in
set_option maxRecDepth 100000 in
theorem stFlags_110yt10 (k : Int) (v : Value) (ax : List (ByteArray × ByteArray)) (s : ByteArray) (w : World) (hv : AttrsV w v ax) (hz : AxOK ax) (hs : s.size ≤ 100000) (hT : StTabs w) {n lo hi : Int} (hN : numK k s.data.toList = some n) (hL : leastK k ax = some lo) (hM : mostK k ax = some hi) (hS : stepK k ax = none) (hk : k = 11) (hlt : hi < lo) (ha : hi < n) (hb : ¬ n < lo) :
    Calls Tryz.prog 22 #[.int .i64 k, v, .string s] w fun e w' => e = .returned (flag3 (flagsK k ax s.data.toList)) ∧ Below w.heap.size w w' := by
  have HV := hide (stValue_any k s w hs hT)
  rw [hN, opt_some] at HV
  have HL := hide (fun W (hb : Below w.heap.size w W) => stLeast_any k v ax W (hv.below hb) hz (hT.below hb))
  rw [hL, opt_some] at HL
  have HM := hide (fun W (hb : Below w.heap.size w W) => stMost_any k v ax W (hv.below hb) hz (hT.below hb))
  rw [hM, opt_some] at HM
  have HS := hide (fun W (hb : Below w.heap.size w W) => stStep_any k v ax W (hv.below hb) hz (hT.below hb))
  rw [hS, opt_none] at HS
  have E : Hid (flagsK k ax s.data.toList = (false, false, false)) := by
    show _ = _
    unfold flagsK
    rw [hN, hL, hM, hS]
    show flagsG k n (some lo) (some hi) none (baseK k ax) = _
    unfold flagsG
    rw [if_pos (show turnG k (some lo) (some hi) = true from by subst hk; show (true && (true && (true && decide (hi < lo)))) = true; rw [decide_eq_true hlt]; rfl)]
    show (decide (hi < n) && decide (n < lo), decide (hi < n) && decide (n < lo), _) = _
    rw [decide_eq_true ha, decide_eq_false hb]; rfl
  obtain ⟨p, c, rfl, _⟩ := hv
  have k11 : (k == 11) = true := by rw [hk]; rfl
  have d1 : decide (hi < lo) = true := decide_eq_true hlt
  have d2 : decide (hi < n) = true := decide_eq_true ha
  have d3 : decide (n < lo) = false := decide_eq_false hb
  clear hN hs hz hL hM hS hT
  subst hk
  go_enter Tryz.func22, Tryz.ntmps22
  go_wp2_with fail
  refine HV.out.mono ?_
  rintro e w1 ⟨rfl, b1⟩
  replace b1 := hide b1
  clear HV
  go_wp2_with fail
  refine (HL.out _ b1.out).mono ?_
  rintro e w2 ⟨rfl, b2⟩
  have B2 := hide (chain b1.out b2)
  clear b2 b1 HL
  go_wp2_with fail
  refine (HM.out _ B2.out).mono ?_
  rintro e w3 ⟨rfl, b3⟩
  have B3 := hide (chain B2.out b3)
  clear b3 B2 HM
  go_wp2_with fail
  refine (HS.out _ B3.out).mono ?_
  rintro e w4 ⟨rfl, b4⟩
  have B4 := hide (chain B3.out b4)
  clear b4 B3 HS
  go_wp2_with fail
  go_ret3
  exact ⟨by rw [E.out]; rfl, B4.out⟩

set_option maxHeartbeats 8000000 in
set_option maxRecDepth 100000 in
theorem stFlags_110yt11 (k : Int) (v : Value) (ax : List (ByteArray × ByteArray)) (s : ByteArray) (w : World) (hv : AttrsV w v ax) (hz : AxOK ax) (hs : s.size ≤ 100000) (hT : StTabs w) {n lo hi : Int} (hN : numK k s.data.toList = some n) (hL : leastK k ax = some lo) (hM : mostK k ax = some hi) (hS : stepK k ax = none) (hk : k = 11) (hlt : hi < lo) (ha : hi < n) (hb : n < lo) :
    Calls Tryz.prog 22 #[.int .i64 k, v, .string s] w fun e w' => e = .returned (flag3 (flagsK k ax s.data.toList)) ∧ Below w.heap.size w w' := by
  have HV := hide (stValue_any k s w hs hT)
  rw [hN, opt_some] at HV
  have HL := hide (fun W (hb : Below w.heap.size w W) => stLeast_any k v ax W (hv.below hb) hz (hT.below hb))
  rw [hL, opt_some] at HL
  have HM := hide (fun W (hb : Below w.heap.size w W) => stMost_any k v ax W (hv.below hb) hz (hT.below hb))
  rw [hM, opt_some] at HM
  have HS := hide (fun W (hb : Below w.heap.size w W) => stStep_any k v ax W (hv.below hb) hz (hT.below hb))
  rw [hS, opt_none] at HS
  have E : Hid (flagsK k ax s.data.toList = (true, true, false)) := by
    show _ = _
    unfold flagsK
    rw [hN, hL, hM, hS]
    show flagsG k n (some lo) (some hi) none (baseK k ax) = _
    unfold flagsG
    rw [if_pos (show turnG k (some lo) (some hi) = true from by subst hk; show (true && (true && (true && decide (hi < lo)))) = true; rw [decide_eq_true hlt]; rfl)]
    show (decide (hi < n) && decide (n < lo), decide (hi < n) && decide (n < lo), _) = _
    rw [decide_eq_true ha, decide_eq_true hb]; rfl
  obtain ⟨p, c, rfl, _⟩ := hv
  have k11 : (k == 11) = true := by rw [hk]; rfl
  have d1 : decide (hi < lo) = true := decide_eq_true hlt
  have d2 : decide (hi < n) = true := decide_eq_true ha
  have d3 : decide (n < lo) = true := decide_eq_true hb
  clear hN hs hz hL hM hS hT
  subst hk
  go_enter Tryz.func22, Tryz.ntmps22
  go_wp2_with fail
  refine HV.out.mono ?_
  rintro e w1 ⟨rfl, b1⟩
  replace b1 := hide b1
  clear HV
  go_wp2_with fail
  refine (HL.out _ b1.out).mono ?_
  rintro e w2 ⟨rfl, b2⟩
  have B2 := hide (chain b1.out b2)
  clear b2 b1 HL
  go_wp2_with fail
  refine (HM.out _ B2.out).mono ?_
  rintro e w3 ⟨rfl, b3⟩
  have B3 := hide (chain B2.out b3)
  clear b3 B2 HM
  go_wp2_with fail
  refine (HS.out _ B3.out).mono ?_
  rintro e w4 ⟨rfl, b4⟩
  have B4 := hide (chain B3.out b4)
  clear b4 B3 HS
  go_wp2_with fail
  go_ret3
  exact ⟨by rw [E.out]; rfl, B4.out⟩

set_option maxHeartbeats 8000000 in
set_option maxRecDepth 100000 in
theorem stFlags_001n (k : Int) (v : Value) (ax : List (ByteArray × ByteArray)) (s : ByteArray) (w : World) (hv : AttrsV w v ax) (hz : AxOK ax) (hs : s.size ≤ 100000) (hT : StTabs w) {n st : Int} (hN : numK k s.data.toList = some n) (hL : leastK k ax = none) (hM : mostK k ax = none) (hS : stepK k ax = some st) (hk : ¬ k = 11) :
    Calls Tryz.prog 22 #[.int .i64 k, v, .string s] w fun e w' => e = .returned (flag3 (flagsK k ax s.data.toList)) ∧ Below w.heap.size w w' := by
  have HV := hide (stValue_any k s w hs hT)
  rw [hN, opt_some] at HV
  have HL := hide (fun W (hb : Below w.heap.size w W) => stLeast_any k v ax W (hv.below hb) hz (hT.below hb))
  rw [hL, opt_none] at HL
  have HM := hide (fun W (hb : Below w.heap.size w W) => stMost_any k v ax W (hv.below hb) hz (hT.below hb))
  rw [hM, opt_none] at HM
  have HS := hide (fun W (hb : Below w.heap.size w W) => stStep_any k v ax W (hv.below hb) hz (hT.below hb))
  rw [hS, opt_some] at HS
  have HB := hide (fun W (hb : Below w.heap.size w W) => stBase_any k v ax W (hv.below hb) hz (hT.below hb))
  have HF := hide (fun W => fits_any n (baseK k ax) st W (by have := num_range hN; omega) (by have := num_range hN; omega) (by have := base_range k ax; omega) (by have := base_range k ax; omega) (by have := step_range k ax hS; omega) (by have := step_range k ax hS; omega))
  have E : Hid (flagsK k ax s.data.toList = (false, false, !fitV n (baseK k ax) st)) := by
    show _ = _
    unfold flagsK
    rw [hN, hL, hM, hS]
    show flagsG k n none none (some st) (baseK k ax) = _
    unfold flagsG
    rw [if_neg (show ¬ turnG k none none = true from by rw [show turnG k none none = false from turn_left k _]; decide)]
    rfl
  obtain ⟨p, c, rfl, _⟩ := hv
  generalize fitV n (baseK k ax) st = ft at *
  generalize baseK k ax = bs at *
  have k11 : (k == 11) = false := by exact beq_eq_false_iff_ne.2 hk
  clear hN hs hz hL hM hS hT
  go_enter Tryz.func22, Tryz.ntmps22
  go_wp2_with fail
  refine HV.out.mono ?_
  rintro e w1 ⟨rfl, b1⟩
  replace b1 := hide b1
  clear HV
  go_wp2_with fail
  refine (HL.out _ b1.out).mono ?_
  rintro e w2 ⟨rfl, b2⟩
  have B2 := hide (chain b1.out b2)
  clear b2 b1 HL
  go_wp2_with fail
  refine (HM.out _ B2.out).mono ?_
  rintro e w3 ⟨rfl, b3⟩
  have B3 := hide (chain B2.out b3)
  clear b3 B2 HM
  go_wp2_with fail
  refine (HS.out _ B3.out).mono ?_
  rintro e w4 ⟨rfl, b4⟩
  have B4 := hide (chain B3.out b4)
  clear b4 B3 HS
  go_wp2_with fail
  refine (HB.out _ B4.out).mono ?_
  rintro e w5 ⟨rfl, b5⟩
  have B5 := hide (chain B4.out b5)
  clear b5 B4 HB
  go_wp2_with fail
  refine (HF.out _).mono ?_
  rintro e w6 ⟨rfl, hw6⟩
  obtain rfl : w5 = w6 := hw6.symm
  go_wp2_with fail
  go_ret3
  exact ⟨by rw [E.out]; rfl, B5.out⟩

set_option maxHeartbeats 8000000 in
set_option maxRecDepth 100000 in
theorem stFlags_001y (k : Int) (v : Value) (ax : List (ByteArray × ByteArray)) (s : ByteArray) (w : World) (hv : AttrsV w v ax) (hz : AxOK ax) (hs : s.size ≤ 100000) (hT : StTabs w) {n st : Int} (hN : numK k s.data.toList = some n) (hL : leastK k ax = none) (hM : mostK k ax = none) (hS : stepK k ax = some st) (hk : k = 11) :
    Calls Tryz.prog 22 #[.int .i64 k, v, .string s] w fun e w' => e = .returned (flag3 (flagsK k ax s.data.toList)) ∧ Below w.heap.size w w' := by
  have HV := hide (stValue_any k s w hs hT)
  rw [hN, opt_some] at HV
  have HL := hide (fun W (hb : Below w.heap.size w W) => stLeast_any k v ax W (hv.below hb) hz (hT.below hb))
  rw [hL, opt_none] at HL
  have HM := hide (fun W (hb : Below w.heap.size w W) => stMost_any k v ax W (hv.below hb) hz (hT.below hb))
  rw [hM, opt_none] at HM
  have HS := hide (fun W (hb : Below w.heap.size w W) => stStep_any k v ax W (hv.below hb) hz (hT.below hb))
  rw [hS, opt_some] at HS
  have HB := hide (fun W (hb : Below w.heap.size w W) => stBase_any k v ax W (hv.below hb) hz (hT.below hb))
  have HF := hide (fun W => fits_any n (baseK k ax) st W (by have := num_range hN; omega) (by have := num_range hN; omega) (by have := base_range k ax; omega) (by have := base_range k ax; omega) (by have := step_range k ax hS; omega) (by have := step_range k ax hS; omega))
  have E : Hid (flagsK k ax s.data.toList = (false, false, !fitV n (baseK k ax) st)) := by
    show _ = _
    unfold flagsK
    rw [hN, hL, hM, hS]
    show flagsG k n none none (some st) (baseK k ax) = _
    unfold flagsG
    rw [if_neg (show ¬ turnG k none none = true from by rw [show turnG k none none = false from turn_left k _]; decide)]
    rfl
  obtain ⟨p, c, rfl, _⟩ := hv
  generalize fitV n (baseK k ax) st = ft at *
  generalize baseK k ax = bs at *
  have k11 : (k == 11) = true := by rw [hk]; rfl
  clear hN hs hz hL hM hS hT
  subst hk
  go_enter Tryz.func22, Tryz.ntmps22
  go_wp2_with fail
  refine HV.out.mono ?_
  rintro e w1 ⟨rfl, b1⟩
  replace b1 := hide b1
  clear HV
  go_wp2_with fail
  refine (HL.out _ b1.out).mono ?_
  rintro e w2 ⟨rfl, b2⟩
  have B2 := hide (chain b1.out b2)
  clear b2 b1 HL
  go_wp2_with fail
  refine (HM.out _ B2.out).mono ?_
  rintro e w3 ⟨rfl, b3⟩
  have B3 := hide (chain B2.out b3)
  clear b3 B2 HM
  go_wp2_with fail
  refine (HS.out _ B3.out).mono ?_
  rintro e w4 ⟨rfl, b4⟩
  have B4 := hide (chain B3.out b4)
  clear b4 B3 HS
  go_wp2_with fail
  refine (HB.out _ B4.out).mono ?_
  rintro e w5 ⟨rfl, b5⟩
  have B5 := hide (chain B4.out b5)
  clear b5 B4 HB
  go_wp2_with fail
  refine (HF.out _).mono ?_
  rintro e w6 ⟨rfl, hw6⟩
  obtain rfl : w5 = w6 := hw6.symm
  go_wp2_with fail
  go_ret3
  exact ⟨by rw [E.out]; rfl, B5.out⟩

set_option maxHeartbeats 8000000 in
set_option maxRecDepth 100000 in
theorem stFlags_011n (k : Int) (v : Value) (ax : List (ByteArray × ByteArray)) (s : ByteArray) (w : World) (hv : AttrsV w v ax) (hz : AxOK ax) (hs : s.size ≤ 100000) (hT : StTabs w) {n hi st : Int} (hN : numK k s.data.toList = some n) (hL : leastK k ax = none) (hM : mostK k ax = some hi) (hS : stepK k ax = some st) (hk : ¬ k = 11) :
    Calls Tryz.prog 22 #[.int .i64 k, v, .string s] w fun e w' => e = .returned (flag3 (flagsK k ax s.data.toList)) ∧ Below w.heap.size w w' := by
  have HV := hide (stValue_any k s w hs hT)
  rw [hN, opt_some] at HV
  have HL := hide (fun W (hb : Below w.heap.size w W) => stLeast_any k v ax W (hv.below hb) hz (hT.below hb))
  rw [hL, opt_none] at HL
  have HM := hide (fun W (hb : Below w.heap.size w W) => stMost_any k v ax W (hv.below hb) hz (hT.below hb))
  rw [hM, opt_some] at HM
  have HS := hide (fun W (hb : Below w.heap.size w W) => stStep_any k v ax W (hv.below hb) hz (hT.below hb))
  rw [hS, opt_some] at HS
  have HB := hide (fun W (hb : Below w.heap.size w W) => stBase_any k v ax W (hv.below hb) hz (hT.below hb))
  have HF := hide (fun W => fits_any n (baseK k ax) st W (by have := num_range hN; omega) (by have := num_range hN; omega) (by have := base_range k ax; omega) (by have := base_range k ax; omega) (by have := step_range k ax hS; omega) (by have := step_range k ax hS; omega))
  have E : Hid (flagsK k ax s.data.toList = (false, decide (hi < n), !fitV n (baseK k ax) st)) := by
    show _ = _
    unfold flagsK
    rw [hN, hL, hM, hS]
    show flagsG k n none (some hi) (some st) (baseK k ax) = _
    unfold flagsG
    rw [if_neg (show ¬ turnG k none (some hi) = true from by rw [show turnG k none (some hi) = false from turn_left k _]; decide)]
    rfl
  obtain ⟨p, c, rfl, _⟩ := hv
  generalize fitV n (baseK k ax) st = ft at *
  generalize baseK k ax = bs at *
  have k11 : (k == 11) = false := by exact beq_eq_false_iff_ne.2 hk
  clear hN hs hz hL hM hS hT
  go_enter Tryz.func22, Tryz.ntmps22
  go_wp2_with fail
  refine HV.out.mono ?_
  rintro e w1 ⟨rfl, b1⟩
  replace b1 := hide b1
  clear HV
  go_wp2_with fail
  refine (HL.out _ b1.out).mono ?_
  rintro e w2 ⟨rfl, b2⟩
  have B2 := hide (chain b1.out b2)
  clear b2 b1 HL
  go_wp2_with fail
  refine (HM.out _ B2.out).mono ?_
  rintro e w3 ⟨rfl, b3⟩
  have B3 := hide (chain B2.out b3)
  clear b3 B2 HM
  go_wp2_with fail
  refine (HS.out _ B3.out).mono ?_
  rintro e w4 ⟨rfl, b4⟩
  have B4 := hide (chain B3.out b4)
  clear b4 B3 HS
  go_wp2_with fail
  refine (HB.out _ B4.out).mono ?_
  rintro e w5 ⟨rfl, b5⟩
  have B5 := hide (chain B4.out b5)
  clear b5 B4 HB
  go_wp2_with fail
  refine (HF.out _).mono ?_
  rintro e w6 ⟨rfl, hw6⟩
  obtain rfl : w5 = w6 := hw6.symm
  go_wp2_with fail
  go_ret3
  exact ⟨by rw [E.out]; rfl, B5.out⟩

set_option maxHeartbeats 8000000 in
set_option maxRecDepth 100000 in
theorem stFlags_011y (k : Int) (v : Value) (ax : List (ByteArray × ByteArray)) (s : ByteArray) (w : World) (hv : AttrsV w v ax) (hz : AxOK ax) (hs : s.size ≤ 100000) (hT : StTabs w) {n hi st : Int} (hN : numK k s.data.toList = some n) (hL : leastK k ax = none) (hM : mostK k ax = some hi) (hS : stepK k ax = some st) (hk : k = 11) :
    Calls Tryz.prog 22 #[.int .i64 k, v, .string s] w fun e w' => e = .returned (flag3 (flagsK k ax s.data.toList)) ∧ Below w.heap.size w w' := by
  have HV := hide (stValue_any k s w hs hT)
  rw [hN, opt_some] at HV
  have HL := hide (fun W (hb : Below w.heap.size w W) => stLeast_any k v ax W (hv.below hb) hz (hT.below hb))
  rw [hL, opt_none] at HL
  have HM := hide (fun W (hb : Below w.heap.size w W) => stMost_any k v ax W (hv.below hb) hz (hT.below hb))
  rw [hM, opt_some] at HM
  have HS := hide (fun W (hb : Below w.heap.size w W) => stStep_any k v ax W (hv.below hb) hz (hT.below hb))
  rw [hS, opt_some] at HS
  have HB := hide (fun W (hb : Below w.heap.size w W) => stBase_any k v ax W (hv.below hb) hz (hT.below hb))
  have HF := hide (fun W => fits_any n (baseK k ax) st W (by have := num_range hN; omega) (by have := num_range hN; omega) (by have := base_range k ax; omega) (by have := base_range k ax; omega) (by have := step_range k ax hS; omega) (by have := step_range k ax hS; omega))
  have E : Hid (flagsK k ax s.data.toList = (false, decide (hi < n), !fitV n (baseK k ax) st)) := by
    show _ = _
    unfold flagsK
    rw [hN, hL, hM, hS]
    show flagsG k n none (some hi) (some st) (baseK k ax) = _
    unfold flagsG
    rw [if_neg (show ¬ turnG k none (some hi) = true from by rw [show turnG k none (some hi) = false from turn_left k _]; decide)]
    rfl
  obtain ⟨p, c, rfl, _⟩ := hv
  generalize fitV n (baseK k ax) st = ft at *
  generalize baseK k ax = bs at *
  have k11 : (k == 11) = true := by rw [hk]; rfl
  clear hN hs hz hL hM hS hT
  subst hk
  go_enter Tryz.func22, Tryz.ntmps22
  go_wp2_with fail
  refine HV.out.mono ?_
  rintro e w1 ⟨rfl, b1⟩
  replace b1 := hide b1
  clear HV
  go_wp2_with fail
  refine (HL.out _ b1.out).mono ?_
  rintro e w2 ⟨rfl, b2⟩
  have B2 := hide (chain b1.out b2)
  clear b2 b1 HL
  go_wp2_with fail
  refine (HM.out _ B2.out).mono ?_
  rintro e w3 ⟨rfl, b3⟩
  have B3 := hide (chain B2.out b3)
  clear b3 B2 HM
  go_wp2_with fail
  refine (HS.out _ B3.out).mono ?_
  rintro e w4 ⟨rfl, b4⟩
  have B4 := hide (chain B3.out b4)
  clear b4 B3 HS
  go_wp2_with fail
  refine (HB.out _ B4.out).mono ?_
  rintro e w5 ⟨rfl, b5⟩
  have B5 := hide (chain B4.out b5)
  clear b5 B4 HB
  go_wp2_with fail
  refine (HF.out _).mono ?_
  rintro e w6 ⟨rfl, hw6⟩
  obtain rfl : w5 = w6 := hw6.symm
  go_wp2_with fail
  go_ret3
  exact ⟨by rw [E.out]; rfl, B5.out⟩

set_option maxHeartbeats 8000000 in
set_option maxRecDepth 100000 in
theorem stFlags_101n (k : Int) (v : Value) (ax : List (ByteArray × ByteArray)) (s : ByteArray) (w : World) (hv : AttrsV w v ax) (hz : AxOK ax) (hs : s.size ≤ 100000) (hT : StTabs w) {n lo st : Int} (hN : numK k s.data.toList = some n) (hL : leastK k ax = some lo) (hM : mostK k ax = none) (hS : stepK k ax = some st) (hk : ¬ k = 11) :
    Calls Tryz.prog 22 #[.int .i64 k, v, .string s] w fun e w' => e = .returned (flag3 (flagsK k ax s.data.toList)) ∧ Below w.heap.size w w' := by
  have HV := hide (stValue_any k s w hs hT)
  rw [hN, opt_some] at HV
  have HL := hide (fun W (hb : Below w.heap.size w W) => stLeast_any k v ax W (hv.below hb) hz (hT.below hb))
  rw [hL, opt_some] at HL
  have HM := hide (fun W (hb : Below w.heap.size w W) => stMost_any k v ax W (hv.below hb) hz (hT.below hb))
  rw [hM, opt_none] at HM
  have HS := hide (fun W (hb : Below w.heap.size w W) => stStep_any k v ax W (hv.below hb) hz (hT.below hb))
  rw [hS, opt_some] at HS
  have HB := hide (fun W (hb : Below w.heap.size w W) => stBase_any k v ax W (hv.below hb) hz (hT.below hb))
  have HF := hide (fun W => fits_any n (baseK k ax) st W (by have := num_range hN; omega) (by have := num_range hN; omega) (by have := base_range k ax; omega) (by have := base_range k ax; omega) (by have := step_range k ax hS; omega) (by have := step_range k ax hS; omega))
  have E : Hid (flagsK k ax s.data.toList = (decide (n < lo), false, !fitV n (baseK k ax) st)) := by
    show _ = _
    unfold flagsK
    rw [hN, hL, hM, hS]
    show flagsG k n (some lo) none (some st) (baseK k ax) = _
    unfold flagsG
    rw [if_neg (show ¬ turnG k (some lo) none = true from by rw [show turnG k (some lo) none = false from turn_right k _]; decide)]
    rfl
  obtain ⟨p, c, rfl, _⟩ := hv
  generalize fitV n (baseK k ax) st = ft at *
  generalize baseK k ax = bs at *
  have k11 : (k == 11) = false := by exact beq_eq_false_iff_ne.2 hk
  clear hN hs hz hL hM hS hT
  go_enter Tryz.func22, Tryz.ntmps22
  go_wp2_with fail
  refine HV.out.mono ?_
  rintro e w1 ⟨rfl, b1⟩
  replace b1 := hide b1
  clear HV
  go_wp2_with fail
  refine (HL.out _ b1.out).mono ?_
  rintro e w2 ⟨rfl, b2⟩
  have B2 := hide (chain b1.out b2)
  clear b2 b1 HL
  go_wp2_with fail
  refine (HM.out _ B2.out).mono ?_
  rintro e w3 ⟨rfl, b3⟩
  have B3 := hide (chain B2.out b3)
  clear b3 B2 HM
  go_wp2_with fail
  refine (HS.out _ B3.out).mono ?_
  rintro e w4 ⟨rfl, b4⟩
  have B4 := hide (chain B3.out b4)
  clear b4 B3 HS
  go_wp2_with fail
  refine (HB.out _ B4.out).mono ?_
  rintro e w5 ⟨rfl, b5⟩
  have B5 := hide (chain B4.out b5)
  clear b5 B4 HB
  go_wp2_with fail
  refine (HF.out _).mono ?_
  rintro e w6 ⟨rfl, hw6⟩
  obtain rfl : w5 = w6 := hw6.symm
  go_wp2_with fail
  go_ret3
  exact ⟨by rw [E.out]; rfl, B5.out⟩

set_option maxHeartbeats 8000000 in
set_option maxRecDepth 100000 in
theorem stFlags_101y (k : Int) (v : Value) (ax : List (ByteArray × ByteArray)) (s : ByteArray) (w : World) (hv : AttrsV w v ax) (hz : AxOK ax) (hs : s.size ≤ 100000) (hT : StTabs w) {n lo st : Int} (hN : numK k s.data.toList = some n) (hL : leastK k ax = some lo) (hM : mostK k ax = none) (hS : stepK k ax = some st) (hk : k = 11) :
    Calls Tryz.prog 22 #[.int .i64 k, v, .string s] w fun e w' => e = .returned (flag3 (flagsK k ax s.data.toList)) ∧ Below w.heap.size w w' := by
  have HV := hide (stValue_any k s w hs hT)
  rw [hN, opt_some] at HV
  have HL := hide (fun W (hb : Below w.heap.size w W) => stLeast_any k v ax W (hv.below hb) hz (hT.below hb))
  rw [hL, opt_some] at HL
  have HM := hide (fun W (hb : Below w.heap.size w W) => stMost_any k v ax W (hv.below hb) hz (hT.below hb))
  rw [hM, opt_none] at HM
  have HS := hide (fun W (hb : Below w.heap.size w W) => stStep_any k v ax W (hv.below hb) hz (hT.below hb))
  rw [hS, opt_some] at HS
  have HB := hide (fun W (hb : Below w.heap.size w W) => stBase_any k v ax W (hv.below hb) hz (hT.below hb))
  have HF := hide (fun W => fits_any n (baseK k ax) st W (by have := num_range hN; omega) (by have := num_range hN; omega) (by have := base_range k ax; omega) (by have := base_range k ax; omega) (by have := step_range k ax hS; omega) (by have := step_range k ax hS; omega))
  have E : Hid (flagsK k ax s.data.toList = (decide (n < lo), false, !fitV n (baseK k ax) st)) := by
    show _ = _
    unfold flagsK
    rw [hN, hL, hM, hS]
    show flagsG k n (some lo) none (some st) (baseK k ax) = _
    unfold flagsG
    rw [if_neg (show ¬ turnG k (some lo) none = true from by rw [show turnG k (some lo) none = false from turn_right k _]; decide)]
    rfl
  obtain ⟨p, c, rfl, _⟩ := hv
  generalize fitV n (baseK k ax) st = ft at *
  generalize baseK k ax = bs at *
  have k11 : (k == 11) = true := by rw [hk]; rfl
  clear hN hs hz hL hM hS hT
  subst hk
  go_enter Tryz.func22, Tryz.ntmps22
  go_wp2_with fail
  refine HV.out.mono ?_
  rintro e w1 ⟨rfl, b1⟩
  replace b1 := hide b1
  clear HV
  go_wp2_with fail
  refine (HL.out _ b1.out).mono ?_
  rintro e w2 ⟨rfl, b2⟩
  have B2 := hide (chain b1.out b2)
  clear b2 b1 HL
  go_wp2_with fail
  refine (HM.out _ B2.out).mono ?_
  rintro e w3 ⟨rfl, b3⟩
  have B3 := hide (chain B2.out b3)
  clear b3 B2 HM
  go_wp2_with fail
  refine (HS.out _ B3.out).mono ?_
  rintro e w4 ⟨rfl, b4⟩
  have B4 := hide (chain B3.out b4)
  clear b4 B3 HS
  go_wp2_with fail
  refine (HB.out _ B4.out).mono ?_
  rintro e w5 ⟨rfl, b5⟩
  have B5 := hide (chain B4.out b5)
  clear b5 B4 HB
  go_wp2_with fail
  refine (HF.out _).mono ?_
  rintro e w6 ⟨rfl, hw6⟩
  obtain rfl : w5 = w6 := hw6.symm
  go_wp2_with fail
  go_ret3
  exact ⟨by rw [E.out]; rfl, B5.out⟩

set_option maxHeartbeats 8000000 in
set_option maxRecDepth 100000 in
theorem stFlags_111n (k : Int) (v : Value) (ax : List (ByteArray × ByteArray)) (s : ByteArray) (w : World) (hv : AttrsV w v ax) (hz : AxOK ax) (hs : s.size ≤ 100000) (hT : StTabs w) {n lo hi st : Int} (hN : numK k s.data.toList = some n) (hL : leastK k ax = some lo) (hM : mostK k ax = some hi) (hS : stepK k ax = some st) (hk : ¬ k = 11) :
    Calls Tryz.prog 22 #[.int .i64 k, v, .string s] w fun e w' => e = .returned (flag3 (flagsK k ax s.data.toList)) ∧ Below w.heap.size w w' := by
  have HV := hide (stValue_any k s w hs hT)
  rw [hN, opt_some] at HV
  have HL := hide (fun W (hb : Below w.heap.size w W) => stLeast_any k v ax W (hv.below hb) hz (hT.below hb))
  rw [hL, opt_some] at HL
  have HM := hide (fun W (hb : Below w.heap.size w W) => stMost_any k v ax W (hv.below hb) hz (hT.below hb))
  rw [hM, opt_some] at HM
  have HS := hide (fun W (hb : Below w.heap.size w W) => stStep_any k v ax W (hv.below hb) hz (hT.below hb))
  rw [hS, opt_some] at HS
  have HB := hide (fun W (hb : Below w.heap.size w W) => stBase_any k v ax W (hv.below hb) hz (hT.below hb))
  have HF := hide (fun W => fits_any n (baseK k ax) st W (by have := num_range hN; omega) (by have := num_range hN; omega) (by have := base_range k ax; omega) (by have := base_range k ax; omega) (by have := step_range k ax hS; omega) (by have := step_range k ax hS; omega))
  have E : Hid (flagsK k ax s.data.toList = (decide (n < lo), decide (hi < n), !fitV n (baseK k ax) st)) := by
    show _ = _
    unfold flagsK
    rw [hN, hL, hM, hS]
    show flagsG k n (some lo) (some hi) (some st) (baseK k ax) = _
    unfold flagsG
    rw [if_neg (show ¬ turnG k (some lo) (some hi) = true from by rw [show turnG k (some lo) (some hi) = false from by unfold turnG; rw [beq_eq_false_iff_ne.2 hk]; rfl]; decide)]
    rfl
  obtain ⟨p, c, rfl, _⟩ := hv
  generalize fitV n (baseK k ax) st = ft at *
  generalize baseK k ax = bs at *
  have k11 : (k == 11) = false := by exact beq_eq_false_iff_ne.2 hk
  clear hN hs hz hL hM hS hT
  go_enter Tryz.func22, Tryz.ntmps22
  go_wp2_with fail
  refine HV.out.mono ?_
  rintro e w1 ⟨rfl, b1⟩
  replace b1 := hide b1
  clear HV
  go_wp2_with fail
  refine (HL.out _ b1.out).mono ?_
  rintro e w2 ⟨rfl, b2⟩
  have B2 := hide (chain b1.out b2)
  clear b2 b1 HL
  go_wp2_with fail
  refine (HM.out _ B2.out).mono ?_
  rintro e w3 ⟨rfl, b3⟩
  have B3 := hide (chain B2.out b3)
  clear b3 B2 HM
  go_wp2_with fail
  refine (HS.out _ B3.out).mono ?_
  rintro e w4 ⟨rfl, b4⟩
  have B4 := hide (chain B3.out b4)
  clear b4 B3 HS
  go_wp2_with fail
  refine (HB.out _ B4.out).mono ?_
  rintro e w5 ⟨rfl, b5⟩
  have B5 := hide (chain B4.out b5)
  clear b5 B4 HB
  go_wp2_with fail
  refine (HF.out _).mono ?_
  rintro e w6 ⟨rfl, hw6⟩
  obtain rfl : w5 = w6 := hw6.symm
  go_wp2_with fail
  go_ret3
  exact ⟨by rw [E.out]; rfl, B5.out⟩

set_option maxHeartbeats 8000000 in
set_option maxRecDepth 100000 in
theorem stFlags_111yf (k : Int) (v : Value) (ax : List (ByteArray × ByteArray)) (s : ByteArray) (w : World) (hv : AttrsV w v ax) (hz : AxOK ax) (hs : s.size ≤ 100000) (hT : StTabs w) {n lo hi st : Int} (hN : numK k s.data.toList = some n) (hL : leastK k ax = some lo) (hM : mostK k ax = some hi) (hS : stepK k ax = some st) (hk : k = 11) (hlt : ¬ hi < lo) :
    Calls Tryz.prog 22 #[.int .i64 k, v, .string s] w fun e w' => e = .returned (flag3 (flagsK k ax s.data.toList)) ∧ Below w.heap.size w w' := by
  have HV := hide (stValue_any k s w hs hT)
  rw [hN, opt_some] at HV
  have HL := hide (fun W (hb : Below w.heap.size w W) => stLeast_any k v ax W (hv.below hb) hz (hT.below hb))
  rw [hL, opt_some] at HL
  have HM := hide (fun W (hb : Below w.heap.size w W) => stMost_any k v ax W (hv.below hb) hz (hT.below hb))
  rw [hM, opt_some] at HM
  have HS := hide (fun W (hb : Below w.heap.size w W) => stStep_any k v ax W (hv.below hb) hz (hT.below hb))
  rw [hS, opt_some] at HS
  have HB := hide (fun W (hb : Below w.heap.size w W) => stBase_any k v ax W (hv.below hb) hz (hT.below hb))
  have HF := hide (fun W => fits_any n (baseK k ax) st W (by have := num_range hN; omega) (by have := num_range hN; omega) (by have := base_range k ax; omega) (by have := base_range k ax; omega) (by have := step_range k ax hS; omega) (by have := step_range k ax hS; omega))
  have E : Hid (flagsK k ax s.data.toList = (decide (n < lo), decide (hi < n), !fitV n (baseK k ax) st)) := by
    show _ = _
    unfold flagsK
    rw [hN, hL, hM, hS]
    show flagsG k n (some lo) (some hi) (some st) (baseK k ax) = _
    unfold flagsG
    rw [if_neg (show ¬ turnG k (some lo) (some hi) = true from by rw [show turnG k (some lo) (some hi) = false from by subst hk; show (true && (true && (true && decide (hi < lo)))) = false; rw [decide_eq_false hlt]; rfl]; decide)]
    rfl
  obtain ⟨p, c, rfl, _⟩ := hv
  generalize fitV n (baseK k ax) st = ft at *
  generalize baseK k ax = bs at *
  have k11 : (k == 11) = true := by rw [hk]; rfl
  have d1 : decide (hi < lo) = false := decide_eq_false hlt
  clear hN hs hz hL hM hS hT
  subst hk
  go_enter Tryz.func22, Tryz.ntmps22
  go_wp2_with fail
  refine HV.out.mono ?_
  rintro e w1 ⟨rfl, b1⟩
  replace b1 := hide b1
  clear HV
  go_wp2_with fail
  refine (HL.out _ b1.out).mono ?_
  rintro e w2 ⟨rfl, b2⟩
  have B2 := hide (chain b1.out b2)
  clear b2 b1 HL
  go_wp2_with fail
  refine (HM.out _ B2.out).mono ?_
  rintro e w3 ⟨rfl, b3⟩
  have B3 := hide (chain B2.out b3)
  clear b3 B2 HM
  go_wp2_with fail
  refine (HS.out _ B3.out).mono ?_
  rintro e w4 ⟨rfl, b4⟩
  have B4 := hide (chain B3.out b4)
  clear b4 B3 HS
  go_wp2_with fail
  refine (HB.out _ B4.out).mono ?_
  rintro e w5 ⟨rfl, b5⟩
  have B5 := hide (chain B4.out b5)
  clear b5 B4 HB
  go_wp2_with fail
  refine (HF.out _).mono ?_
  rintro e w6 ⟨rfl, hw6⟩
  obtain rfl : w5 = w6 := hw6.symm
  go_wp2_with fail
  go_ret3
  exact ⟨by rw [E.out]; rfl, B5.out⟩

set_option maxHeartbeats 8000000 in
set_option maxRecDepth 100000 in
theorem stFlags_111yt01 (k : Int) (v : Value) (ax : List (ByteArray × ByteArray)) (s : ByteArray) (w : World) (hv : AttrsV w v ax) (hz : AxOK ax) (hs : s.size ≤ 100000) (hT : StTabs w) {n lo hi st : Int} (hN : numK k s.data.toList = some n) (hL : leastK k ax = some lo) (hM : mostK k ax = some hi) (hS : stepK k ax = some st) (hk : k = 11) (hlt : hi < lo) (ha : ¬ hi < n) (hb : n < lo) :
    Calls Tryz.prog 22 #[.int .i64 k, v, .string s] w fun e w' => e = .returned (flag3 (flagsK k ax s.data.toList)) ∧ Below w.heap.size w w' := by
  have HV := hide (stValue_any k s w hs hT)
  rw [hN, opt_some] at HV
  have HL := hide (fun W (hb : Below w.heap.size w W) => stLeast_any k v ax W (hv.below hb) hz (hT.below hb))
  rw [hL, opt_some] at HL
  have HM := hide (fun W (hb : Below w.heap.size w W) => stMost_any k v ax W (hv.below hb) hz (hT.below hb))
  rw [hM, opt_some] at HM
  have HS := hide (fun W (hb : Below w.heap.size w W) => stStep_any k v ax W (hv.below hb) hz (hT.below hb))
  rw [hS, opt_some] at HS
  have HB := hide (fun W (hb : Below w.heap.size w W) => stBase_any k v ax W (hv.below hb) hz (hT.below hb))
  have HF := hide (fun W => fits_any n (baseK k ax) st W (by have := num_range hN; omega) (by have := num_range hN; omega) (by have := base_range k ax; omega) (by have := base_range k ax; omega) (by have := step_range k ax hS; omega) (by have := step_range k ax hS; omega))
  have E : Hid (flagsK k ax s.data.toList = (false, false, !fitV n (baseK k ax) st)) := by
    show _ = _
    unfold flagsK
    rw [hN, hL, hM, hS]
    show flagsG k n (some lo) (some hi) (some st) (baseK k ax) = _
    unfold flagsG
    rw [if_pos (show turnG k (some lo) (some hi) = true from by subst hk; show (true && (true && (true && decide (hi < lo)))) = true; rw [decide_eq_true hlt]; rfl)]
    show (decide (hi < n) && decide (n < lo), decide (hi < n) && decide (n < lo), _) = _
    rw [decide_eq_false ha, decide_eq_true hb]; rfl
  obtain ⟨p, c, rfl, _⟩ := hv
  generalize fitV n (baseK k ax) st = ft at *
  generalize baseK k ax = bs at *
  have k11 : (k == 11) = true := by rw [hk]; rfl
  have d1 : decide (hi < lo) = true := decide_eq_true hlt
  have d2 : decide (hi < n) = false := decide_eq_false ha
  have d3 : decide (n < lo) = true := decide_eq_true hb
  clear hN hs hz hL hM hS hT
  subst hk
  go_enter Tryz.func22, Tryz.ntmps22
  go_wp2_with fail
  refine HV.out.mono ?_
  rintro e w1 ⟨rfl, b1⟩
  replace b1 := hide b1
  clear HV
  go_wp2_with fail
  refine (HL.out _ b1.out).mono ?_
  rintro e w2 ⟨rfl, b2⟩
  have B2 := hide (chain b1.out b2)
  clear b2 b1 HL
  go_wp2_with fail
  refine (HM.out _ B2.out).mono ?_
  rintro e w3 ⟨rfl, b3⟩
  have B3 := hide (chain B2.out b3)
  clear b3 B2 HM
  go_wp2_with fail
  refine (HS.out _ B3.out).mono ?_
  rintro e w4 ⟨rfl, b4⟩
  have B4 := hide (chain B3.out b4)
  clear b4 B3 HS
  go_wp2_with fail
  refine (HB.out _ B4.out).mono ?_
  rintro e w5 ⟨rfl, b5⟩
  have B5 := hide (chain B4.out b5)
  clear b5 B4 HB
  go_wp2_with fail
  refine (HF.out _).mono ?_
  rintro e w6 ⟨rfl, hw6⟩
  obtain rfl : w5 = w6 := hw6.symm
  go_wp2_with fail
  go_ret3
  exact ⟨by rw [E.out]; rfl, B5.out⟩

set_option maxHeartbeats 8000000 in
set_option maxRecDepth 100000 in
theorem stFlags_111yt10 (k : Int) (v : Value) (ax : List (ByteArray × ByteArray)) (s : ByteArray) (w : World) (hv : AttrsV w v ax) (hz : AxOK ax) (hs : s.size ≤ 100000) (hT : StTabs w) {n lo hi st : Int} (hN : numK k s.data.toList = some n) (hL : leastK k ax = some lo) (hM : mostK k ax = some hi) (hS : stepK k ax = some st) (hk : k = 11) (hlt : hi < lo) (ha : hi < n) (hb : ¬ n < lo) :
    Calls Tryz.prog 22 #[.int .i64 k, v, .string s] w fun e w' => e = .returned (flag3 (flagsK k ax s.data.toList)) ∧ Below w.heap.size w w' := by
  have HV := hide (stValue_any k s w hs hT)
  rw [hN, opt_some] at HV
  have HL := hide (fun W (hb : Below w.heap.size w W) => stLeast_any k v ax W (hv.below hb) hz (hT.below hb))
  rw [hL, opt_some] at HL
  have HM := hide (fun W (hb : Below w.heap.size w W) => stMost_any k v ax W (hv.below hb) hz (hT.below hb))
  rw [hM, opt_some] at HM
  have HS := hide (fun W (hb : Below w.heap.size w W) => stStep_any k v ax W (hv.below hb) hz (hT.below hb))
  rw [hS, opt_some] at HS
  have HB := hide (fun W (hb : Below w.heap.size w W) => stBase_any k v ax W (hv.below hb) hz (hT.below hb))
  have HF := hide (fun W => fits_any n (baseK k ax) st W (by have := num_range hN; omega) (by have := num_range hN; omega) (by have := base_range k ax; omega) (by have := base_range k ax; omega) (by have := step_range k ax hS; omega) (by have := step_range k ax hS; omega))
  have E : Hid (flagsK k ax s.data.toList = (false, false, !fitV n (baseK k ax) st)) := by
    show _ = _
    unfold flagsK
    rw [hN, hL, hM, hS]
    show flagsG k n (some lo) (some hi) (some st) (baseK k ax) = _
    unfold flagsG
    rw [if_pos (show turnG k (some lo) (some hi) = true from by subst hk; show (true && (true && (true && decide (hi < lo)))) = true; rw [decide_eq_true hlt]; rfl)]
    show (decide (hi < n) && decide (n < lo), decide (hi < n) && decide (n < lo), _) = _
    rw [decide_eq_true ha, decide_eq_false hb]; rfl
  obtain ⟨p, c, rfl, _⟩ := hv
  generalize fitV n (baseK k ax) st = ft at *
  generalize baseK k ax = bs at *
  have k11 : (k == 11) = true := by rw [hk]; rfl
  have d1 : decide (hi < lo) = true := decide_eq_true hlt
  have d2 : decide (hi < n) = true := decide_eq_true ha
  have d3 : decide (n < lo) = false := decide_eq_false hb
  clear hN hs hz hL hM hS hT
  subst hk
  go_enter Tryz.func22, Tryz.ntmps22
  go_wp2_with fail
  refine HV.out.mono ?_
  rintro e w1 ⟨rfl, b1⟩
  replace b1 := hide b1
  clear HV
  go_wp2_with fail
  refine (HL.out _ b1.out).mono ?_
  rintro e w2 ⟨rfl, b2⟩
  have B2 := hide (chain b1.out b2)
  clear b2 b1 HL
  go_wp2_with fail
  refine (HM.out _ B2.out).mono ?_
  rintro e w3 ⟨rfl, b3⟩
  have B3 := hide (chain B2.out b3)
  clear b3 B2 HM
  go_wp2_with fail
  refine (HS.out _ B3.out).mono ?_
  rintro e w4 ⟨rfl, b4⟩
  have B4 := hide (chain B3.out b4)
  clear b4 B3 HS
  go_wp2_with fail
  refine (HB.out _ B4.out).mono ?_
  rintro e w5 ⟨rfl, b5⟩
  have B5 := hide (chain B4.out b5)
  clear b5 B4 HB
  go_wp2_with fail
  refine (HF.out _).mono ?_
  rintro e w6 ⟨rfl, hw6⟩
  obtain rfl : w5 = w6 := hw6.symm
  go_wp2_with fail
  go_ret3
  exact ⟨by rw [E.out]; rfl, B5.out⟩

set_option maxHeartbeats 8000000 in
set_option maxRecDepth 100000 in
theorem stFlags_111yt11 (k : Int) (v : Value) (ax : List (ByteArray × ByteArray)) (s : ByteArray) (w : World) (hv : AttrsV w v ax) (hz : AxOK ax) (hs : s.size ≤ 100000) (hT : StTabs w) {n lo hi st : Int} (hN : numK k s.data.toList = some n) (hL : leastK k ax = some lo) (hM : mostK k ax = some hi) (hS : stepK k ax = some st) (hk : k = 11) (hlt : hi < lo) (ha : hi < n) (hb : n < lo) :
    Calls Tryz.prog 22 #[.int .i64 k, v, .string s] w fun e w' => e = .returned (flag3 (flagsK k ax s.data.toList)) ∧ Below w.heap.size w w' := by
  have HV := hide (stValue_any k s w hs hT)
  rw [hN, opt_some] at HV
  have HL := hide (fun W (hb : Below w.heap.size w W) => stLeast_any k v ax W (hv.below hb) hz (hT.below hb))
  rw [hL, opt_some] at HL
  have HM := hide (fun W (hb : Below w.heap.size w W) => stMost_any k v ax W (hv.below hb) hz (hT.below hb))
  rw [hM, opt_some] at HM
  have HS := hide (fun W (hb : Below w.heap.size w W) => stStep_any k v ax W (hv.below hb) hz (hT.below hb))
  rw [hS, opt_some] at HS
  have HB := hide (fun W (hb : Below w.heap.size w W) => stBase_any k v ax W (hv.below hb) hz (hT.below hb))
  have HF := hide (fun W => fits_any n (baseK k ax) st W (by have := num_range hN; omega) (by have := num_range hN; omega) (by have := base_range k ax; omega) (by have := base_range k ax; omega) (by have := step_range k ax hS; omega) (by have := step_range k ax hS; omega))
  have E : Hid (flagsK k ax s.data.toList = (true, true, !fitV n (baseK k ax) st)) := by
    show _ = _
    unfold flagsK
    rw [hN, hL, hM, hS]
    show flagsG k n (some lo) (some hi) (some st) (baseK k ax) = _
    unfold flagsG
    rw [if_pos (show turnG k (some lo) (some hi) = true from by subst hk; show (true && (true && (true && decide (hi < lo)))) = true; rw [decide_eq_true hlt]; rfl)]
    show (decide (hi < n) && decide (n < lo), decide (hi < n) && decide (n < lo), _) = _
    rw [decide_eq_true ha, decide_eq_true hb]; rfl
  obtain ⟨p, c, rfl, _⟩ := hv
  generalize fitV n (baseK k ax) st = ft at *
  generalize baseK k ax = bs at *
  have k11 : (k == 11) = true := by rw [hk]; rfl
  have d1 : decide (hi < lo) = true := decide_eq_true hlt
  have d2 : decide (hi < n) = true := decide_eq_true ha
  have d3 : decide (n < lo) = true := decide_eq_true hb
  clear hN hs hz hL hM hS hT
  subst hk
  go_enter Tryz.func22, Tryz.ntmps22
  go_wp2_with fail
  refine HV.out.mono ?_
  rintro e w1 ⟨rfl, b1⟩
  replace b1 := hide b1
  clear HV
  go_wp2_with fail
  refine (HL.out _ b1.out).mono ?_
  rintro e w2 ⟨rfl, b2⟩
  have B2 := hide (chain b1.out b2)
  clear b2 b1 HL
  go_wp2_with fail
  refine (HM.out _ B2.out).mono ?_
  rintro e w3 ⟨rfl, b3⟩
  have B3 := hide (chain B2.out b3)
  clear b3 B2 HM
  go_wp2_with fail
  refine (HS.out _ B3.out).mono ?_
  rintro e w4 ⟨rfl, b4⟩
  have B4 := hide (chain B3.out b4)
  clear b4 B3 HS
  go_wp2_with fail
  refine (HB.out _ B4.out).mono ?_
  rintro e w5 ⟨rfl, b5⟩
  have B5 := hide (chain B4.out b5)
  clear b5 B4 HB
  go_wp2_with fail
  refine (HF.out _).mono ?_
  rintro e w6 ⟨rfl, hw6⟩
  obtain rfl : w5 = w6 := hw6.symm
  go_wp2_with fail
  go_ret3
  exact ⟨by rw [E.out]; rfl, B5.out⟩

theorem stFlags_any (k : Int) (v : Value) (ax : List (ByteArray × ByteArray)) (w : World) (hv : AttrsV w v ax) (hz : AxOK ax) (s : ByteArray) (hs : s.size ≤ 100000) (hT : StTabs w) :
    Calls Tryz.prog 22 #[.int .i64 k, v, .string s] w fun e w' => e = .returned (flag3 (flagsK k ax s.data.toList)) ∧ Below w.heap.size w w' := by
  cases hN : numK k s.data.toList with
  | none => exact stFlags_none k v ax s w hv hs hT hN
  | some n =>
    cases hS : stepK k ax with
    | none =>
      cases hL : leastK k ax with
      | none =>
        cases hM : mostK k ax with
        | none =>
          by_cases hk : k = 11
          · exact stFlags_000y k v ax s w hv hz hs hT hN hL hM hS hk
          · exact stFlags_000n k v ax s w hv hz hs hT hN hL hM hS hk
        | some hi =>
          by_cases hk : k = 11
          · exact stFlags_010y k v ax s w hv hz hs hT hN hL hM hS hk
          · exact stFlags_010n k v ax s w hv hz hs hT hN hL hM hS hk
      | some lo =>
        cases hM : mostK k ax with
        | none =>
          by_cases hk : k = 11
          · exact stFlags_100y k v ax s w hv hz hs hT hN hL hM hS hk
          · exact stFlags_100n k v ax s w hv hz hs hT hN hL hM hS hk
        | some hi =>
          by_cases hk : k = 11
          · by_cases hlt : hi < lo
            · by_cases ha : hi < n
              · by_cases hb : n < lo
                · exact stFlags_110yt11 k v ax s w hv hz hs hT hN hL hM hS hk hlt ha hb
                · exact stFlags_110yt10 k v ax s w hv hz hs hT hN hL hM hS hk hlt ha hb
              · exact stFlags_110yt01 k v ax s w hv hz hs hT hN hL hM hS hk hlt ha (by omega)
            · exact stFlags_110yf k v ax s w hv hz hs hT hN hL hM hS hk hlt
          · exact stFlags_110n k v ax s w hv hz hs hT hN hL hM hS hk
    | some st =>
      cases hL : leastK k ax with
      | none =>
        cases hM : mostK k ax with
        | none =>
          by_cases hk : k = 11
          · exact stFlags_001y k v ax s w hv hz hs hT hN hL hM hS hk
          · exact stFlags_001n k v ax s w hv hz hs hT hN hL hM hS hk
        | some hi =>
          by_cases hk : k = 11
          · exact stFlags_011y k v ax s w hv hz hs hT hN hL hM hS hk
          · exact stFlags_011n k v ax s w hv hz hs hT hN hL hM hS hk
      | some lo =>
        cases hM : mostK k ax with
        | none =>
          by_cases hk : k = 11
          · exact stFlags_101y k v ax s w hv hz hs hT hN hL hM hS hk
          · exact stFlags_101n k v ax s w hv hz hs hT hN hL hM hS hk
        | some hi =>
          by_cases hk : k = 11
          · by_cases hlt : hi < lo
            · by_cases ha : hi < n
              · by_cases hb : n < lo
                · exact stFlags_111yt11 k v ax s w hv hz hs hT hN hL hM hS hk hlt ha hb
                · exact stFlags_111yt10 k v ax s w hv hz hs hT hN hL hM hS hk hlt ha hb
              · exact stFlags_111yt01 k v ax s w hv hz hs hT hN hL hM hS hk hlt ha (by omega)
            · exact stFlags_111yf k v ax s w hv hz hs hT hN hL hM hS hk hlt
          · exact stFlags_111n k v ax s w hv hz hs hT hN hL hM hS hk

end Go.Proofs.YtdjhbodbmhakgaaGreatDoor
