/- Joined texts. StepS1: The program's Value, showNumber, Show of layer 12: they answer by the functions of 'StepP'; what lay in the world lies there still. Conditions: texts of at most 100000 bytes; the tables of its road read as the texts lay them. Bk: A block of the call's own: its cells, read and stored into; kept while what was there stays. No condition. FndS: The text of the first attribute of a name; plain facts of no program. No condition. StepS2: The program's finder and what it answers, numberOf, Least, Most, Base of layer 12: they answer by the functions of 'StepP'; what lay in the world lies there still. Conditions: a row of attributes as it lies in the world; texts of at most 100000 bytes; the tables of its road read as the texts lay them. -/
import Derived.Test.YtpkpkpiphgjbaaaGreatDoorJcl16
import Derived.Test.YtpkpkpiphgjbaaaGreatDoorJcl14
import Derived.Test.YtpkpkpiphgjbaaaGreatDoorJcl17
import Derived.Test.YtpkpkpiphgjbaaaGreatDoorJcl18
import Derived.Test.YtpkpkpiphgjbaaaGreatDoorJcl22
import Derived.Test.YtpkpkpiphgjbaaaGreatDoorJcl1
import Derived.Test.YtpkpkpiphgjbaaaGreatDoorJcl6
namespace Go.Proofs.YtpkpkpiphgjbaaaGreatDoor
open Go.RowKit
set_option maxRecDepth 100000

structure StTabs (w : World) : Prop where
  mom : Tabs w
  max : SomeMax w
  unit : Units w
theorem StTabs.below {w w' : World} (h : StTabs w) (hb : Below w.heap.size w w') : StTabs w' := ⟨h.mom.below hb, h.max.below hb, h.unit.below hb⟩
theorem row_mom {k : Int} (h : 8 ≤ k ∧ k ≤ 12) : rowU k = .agg #[.int .i64 (k - 7), .int .i64 (scaleK k), .int .i64 (defK k)] := by
  unfold rowU momK
  rw [if_pos (by omega), if_pos (by omega)]
theorem row_out {k : Int} (h : ¬ (8 ≤ k ∧ k ≤ 14)) : rowU k = .agg #[.int .i64 0, .int .i64 0, .int .i64 0] := if_neg h

set_option maxHeartbeats 4000000 in
set_option maxRecDepth 100000 in
theorem stValue_mom (k : Int) (s : ByteArray) (w : World) (hs : s.size ≤ 100000) (hT : StTabs w) (h : 8 ≤ k ∧ k ≤ 12) :
    Calls Tryz.prog 46 #[.int .i64 k, .string s] w fun e w' => e = .returned (optV (numK k s.data.toList)) ∧ Below w.heap.size w w' := by
  have E1 : Hid (numK k s.data.toList = momT (k - 7) s.data.toList) := by show _ = _; unfold numK; rw [if_neg (by omega), if_pos h]
  have E2 := hide (mom_opt (k := k - 7) (by omega) s.data.toList)
  have HU := hide (unitOf_any k w hT.unit)
  rw [row_mom h] at HU
  have HP := hide (fun W (hb : Below w.heap.size w W) => momParse_any (k - 7) s W hs (hT.below hb).mom)
  have m1 : ¬ k - 7 = 0 := by omega
  generalize k - 7 = m at *
  generalize scaleK k = sc at *
  generalize defK k = de at *
  have m2 : (m == 0) = false := beq_eq_false_iff_ne.2 m1
  generalize momV m s.data.toList = r at *
  clear h hT
  go_enter Tryz.func46, Tryz.ntmps46
  go_wp2_with fail
  refine HU.out.mono ?_
  rintro e u1 ⟨rfl, b1⟩
  go_wp2_with fail
  refine (HP.out _ (b1.alloc b1.size _)).mono ?_
  rintro e u2 ⟨rfl, b2⟩
  go_wp2_with fail
  go_ret2
  exact ⟨by rw [E1.out]; exact ret_opt E2.out.1 E2.out.2, chain (b1.alloc b1.size _) b2⟩
set_option maxHeartbeats 4000000 in
set_option maxRecDepth 100000 in
theorem stValue_13 (s : ByteArray) (w : World) (hs : s.size ≤ 100000) (hT : StTabs w) :
    Calls Tryz.prog 46 #[.int .i64 13, .string s] w fun e w' => e = .returned (optV (numK 13 s.data.toList)) ∧ Below w.heap.size w w' := by
  have E1 : Hid (numK 13 s.data.toList = okP (parseV s.data.toList)) := if_pos (by decide)
  have E2 := hide (parse_opt s.data.toList)
  have HU := hide (unitOf_13 w hT.unit)
  have HP := hide (fun W (hb : Below w.heap.size w W) => parse_any s W (by omega) (hT.below hb).max)
  generalize parseV s.data.toList = r at *
  clear hT
  go_enter Tryz.func46, Tryz.ntmps46
  go_wp2_with fail
  refine HU.out.mono ?_
  rintro e u1 ⟨rfl, b1⟩
  go_wp2_with fail
  refine (HP.out _ (b1.alloc b1.size _)).mono ?_
  rintro e u2 ⟨rfl, b2⟩
  go_wp2_with fail
  go_ret2
  exact ⟨by rw [E1.out]; exact ret_opt E2.out.1 E2.out.2, chain (b1.alloc b1.size _) b2⟩
set_option maxHeartbeats 4000000 in
set_option maxRecDepth 100000 in
theorem stValue_14 (s : ByteArray) (w : World) (hs : s.size ≤ 100000) (hT : StTabs w) :
    Calls Tryz.prog 46 #[.int .i64 14, .string s] w fun e w' => e = .returned (optV (numK 14 s.data.toList)) ∧ Below w.heap.size w w' := by
  have E1 : Hid (numK 14 s.data.toList = okP (parseV s.data.toList)) := if_pos (by decide)
  have E2 := hide (parse_opt s.data.toList)
  have HU := hide (unitOf_14 w hT.unit)
  have HP := hide (fun W (hb : Below w.heap.size w W) => parse_any s W (by omega) (hT.below hb).max)
  generalize parseV s.data.toList = r at *
  clear hT
  go_enter Tryz.func46, Tryz.ntmps46
  go_wp2_with fail
  refine HU.out.mono ?_
  rintro e u1 ⟨rfl, b1⟩
  go_wp2_with fail
  refine (HP.out _ (b1.alloc b1.size _)).mono ?_
  rintro e u2 ⟨rfl, b2⟩
  go_wp2_with fail
  go_ret2
  exact ⟨by rw [E1.out]; exact ret_opt E2.out.1 E2.out.2, chain (b1.alloc b1.size _) b2⟩
set_option maxHeartbeats 4000000 in
set_option maxRecDepth 100000 in
theorem stValue_out (k : Int) (s : ByteArray) (w : World) (hT : StTabs w) (h : ¬ (8 ≤ k ∧ k ≤ 14)) :
    Calls Tryz.prog 46 #[.int .i64 k, .string s] w fun e w' => e = .returned (optV (numK k s.data.toList)) ∧ Below w.heap.size w w' := by
  have E1 : Hid (numK k s.data.toList = none) := by show _ = _; unfold numK; rw [if_neg (by omega), if_neg (by omega)]
  have HU := hide (unitOf_any k w hT.unit)
  rw [row_out h] at HU
  clear hT h
  go_enter Tryz.func46, Tryz.ntmps46
  go_wp2_with fail
  refine HU.out.mono ?_
  rintro e u1 ⟨rfl, b1⟩
  go_wp2_with fail
  go_ret2
  exact ⟨by rw [E1.out]; rfl, b1.alloc b1.size _⟩
theorem stValue_any (k : Int) (s : ByteArray) (w : World) (hs : s.size ≤ 100000) (hT : StTabs w) :
    Calls Tryz.prog 46 #[.int .i64 k, .string s] w fun e w' => e = .returned (optV (numK k s.data.toList)) ∧ Below w.heap.size w w' := by
  by_cases h : 8 ≤ k ∧ k ≤ 14
  · by_cases q : k ≤ 12
    · exact stValue_mom k s w hs hT ⟨h.1, q⟩
    · rcases (show k = 13 ∨ k = 14 by omega) with rfl | rfl
      · exact stValue_13 s w hs hT
      · exact stValue_14 s w hs hT
  · exact stValue_out k s w hT h

set_option maxHeartbeats 4000000 in
set_option maxRecDepth 100000 in
theorem showNumber_in (n : Int) (w : World) (n1 : -1000000000000000000 ≤ n) (n2 : n ≤ 1000000000000000000) (hT : Tens w) :
    Calls Tryz.prog 77 #[.int .i64 n] w fun e w' => e = .returned (.tuple #[.string (txt (showL n)), .bool true]) ∧ Below w.heap.size w w' := by
  have HS := hide (show_any n w (by omega) (by omega) hT)
  generalize txt (showL n) = t at *
  have g1 : ¬ 1000000000000000000 < n := by omega
  have g2 : ¬ n < -1000000000000000000 := by omega
  have d1 : decide (1000000000000000000 < n) = false := decide_eq_false g1
  have d2 : decide (n < -1000000000000000000) = false := decide_eq_false g2
  go_enter Tryz.func77, Tryz.ntmps77
  go_wp2_with fail
  refine HS.out.mono ?_
  rintro e u1 ⟨rfl, b1⟩
  go_wp2_with fail
  go_ret2
  exact ⟨rfl, b1⟩
set_option maxHeartbeats 4000000 in
set_option maxRecDepth 100000 in
theorem showNumber_out (n : Int) (w : World) (h : ¬ (-1000000000000000000 ≤ n ∧ n ≤ 1000000000000000000)) :
    Calls Tryz.prog 77 #[.int .i64 n] w fun e w' => e = .returned (.tuple #[.string ⟨#[]⟩, .bool false]) ∧ Below w.heap.size w w' := by
  rcases (show n < -1000000000000000000 ∨ 1000000000000000000 < n by omega) with q | q
  · clear h
    go_enter Tryz.func77, Tryz.ntmps77
    go_wp2_with fail
    go_ret2
    exact ⟨rfl, Below.refl _ _⟩
  · have g2 : ¬ n < -1000000000000000000 := by omega
    have d2 : decide (n < -1000000000000000000) = false := decide_eq_false g2
    clear h
    go_enter Tryz.func77, Tryz.ntmps77
    go_wp2_with fail
    go_ret2
    exact ⟨rfl, Below.refl _ _⟩
set_option maxHeartbeats 4000000 in
set_option maxRecDepth 100000 in
theorem stShow_13 (n : Int) (t : ByteArray) (b : Bool) (w : World) (hT : StTabs w) (h : ∀ W, Below w.heap.size w W → Calls Tryz.prog 77 #[.int .i64 n] W fun e w' => e = .returned (.tuple #[.string t, .bool b]) ∧ Below W.heap.size W w') :
    Calls Tryz.prog 47 #[.int .i64 13, .int .i64 n] w fun e w' => e = .returned (.tuple #[.string t, .bool b]) ∧ Below w.heap.size w w' := by
  have HU := hide (unitOf_13 w hT.unit)
  have HP := hide h
  clear hT h
  go_enter Tryz.func47, Tryz.ntmps47
  go_wp2_with fail
  refine HU.out.mono ?_
  rintro e u1 ⟨rfl, b1⟩
  go_wp2_with fail
  refine (HP.out _ (b1.alloc b1.size _)).mono ?_
  rintro e u2 ⟨rfl, b2⟩
  go_wp2_with fail
  go_ret2
  exact ⟨rfl, chain (b1.alloc b1.size _) b2⟩
set_option maxHeartbeats 4000000 in
set_option maxRecDepth 100000 in
theorem stShow_14 (n : Int) (t : ByteArray) (b : Bool) (w : World) (hT : StTabs w) (h : ∀ W, Below w.heap.size w W → Calls Tryz.prog 77 #[.int .i64 n] W fun e w' => e = .returned (.tuple #[.string t, .bool b]) ∧ Below W.heap.size W w') :
    Calls Tryz.prog 47 #[.int .i64 14, .int .i64 n] w fun e w' => e = .returned (.tuple #[.string t, .bool b]) ∧ Below w.heap.size w w' := by
  have HU := hide (unitOf_14 w hT.unit)
  have HP := hide h
  clear hT h
  go_enter Tryz.func47, Tryz.ntmps47
  go_wp2_with fail
  refine HU.out.mono ?_
  rintro e u1 ⟨rfl, b1⟩
  go_wp2_with fail
  refine (HP.out _ (b1.alloc b1.size _)).mono ?_
  rintro e u2 ⟨rfl, b2⟩
  go_wp2_with fail
  go_ret2
  exact ⟨rfl, chain (b1.alloc b1.size _) b2⟩
set_option maxHeartbeats 4000000 in
set_option maxRecDepth 100000 in
theorem stShow_mom (k n : Int) (t : ByteArray) (c : Int) (b : Bool) (w : World) (hT : StTabs w) (h : 8 ≤ k ∧ k ≤ 12) (hc : (c == 0) = b) (hS : ∀ W, Below w.heap.size w W → Calls Tryz.prog 78 #[.int .i64 (k - 7), .int .i64 n] W fun e w' => e = .returned (.tuple #[.string t, .int .i64 c]) ∧ Below W.heap.size W w') :
    Calls Tryz.prog 47 #[.int .i64 k, .int .i64 n] w fun e w' => e = .returned (.tuple #[.string t, .bool b]) ∧ Below w.heap.size w w' := by
  have HU := hide (unitOf_any k w hT.unit)
  rw [row_mom h] at HU
  have HP := hide hS
  have m1 : ¬ k - 7 = 0 := by omega
  generalize k - 7 = m at *
  generalize scaleK k = sc at *
  generalize defK k = de at *
  have m2 : (m == 0) = false := beq_eq_false_iff_ne.2 m1
  clear h hT hS
  go_enter Tryz.func47, Tryz.ntmps47
  go_wp2_with fail
  refine HU.out.mono ?_
  rintro e u1 ⟨rfl, b1⟩
  go_wp2_with fail
  refine (HP.out _ (b1.alloc b1.size _)).mono ?_
  rintro e u2 ⟨rfl, b2⟩
  go_wp2_with fail
  go_ret2
  exact ⟨rfl, chain (b1.alloc b1.size _) b2⟩
set_option maxHeartbeats 4000000 in
set_option maxRecDepth 100000 in
theorem stShow_out (k n : Int) (w : World) (hT : StTabs w) (h : ¬ (8 ≤ k ∧ k ≤ 14)) :
    Calls Tryz.prog 47 #[.int .i64 k, .int .i64 n] w fun e w' => e = .returned (.tuple #[.string ⟨#[]⟩, .bool false]) ∧ Below w.heap.size w w' := by
  have HU := hide (unitOf_any k w hT.unit)
  rw [row_out h] at HU
  clear hT h
  go_enter Tryz.func47, Tryz.ntmps47
  go_wp2_with fail
  refine HU.out.mono ?_
  rintro e u1 ⟨rfl, b1⟩
  go_wp2_with fail
  go_ret2
  exact ⟨rfl, b1.alloc b1.size _⟩
theorem stShow_any {k n : Int} {o : Option (List UInt8)} (h : ShK k n o) (w : World) (n1 : -9223372036854775808 ≤ n) (n2 : n ≤ 9223372036854775807) (hT : StTabs w) :
    Calls Tryz.prog 47 #[.int .i64 k, .int .i64 n] w fun e w' => e = .returned (txtV o) ∧ Below w.heap.size w w' := by
  rcases h with ⟨h, h1⟩ | ⟨h, h1⟩ | ⟨h, rfl⟩
  · rcases h1 with ⟨q1, q2, rfl⟩ | ⟨q, rfl⟩
    · rcases h with rfl | rfl
      · exact stShow_13 n _ _ w hT fun W hb => showNumber_in n W q1 q2 (hT.below hb).mom.2
      · exact stShow_14 n _ _ w hT fun W hb => showNumber_in n W q1 q2 (hT.below hb).mom.2
    · rcases h with rfl | rfl
      · exact stShow_13 n _ _ w hT fun W _ => showNumber_out n W q
      · exact stShow_14 n _ _ w hT fun W _ => showNumber_out n W q
  · rcases h1 with ⟨t, ht, rfl⟩ | ⟨hn, rfl⟩
    · exact stShow_mom k n _ 0 true w hT h rfl fun W hb => momShow_yes ht W n1 n2 (hT.below hb).mom
    · exact stShow_mom k n _ 2 false w hT h rfl fun W hb => momShow_no hn W n1 n2 (hT.below hb).mom
  · exact stShow_out k n w hT h

end Go.Proofs.YtpkpkpiphgjbaaaGreatDoor

namespace Go.Proofs.YtpkpkpiphgjbaaaGreatDoor
open Go.RowKit

structure Bk (w : World) (n : Nat) (cs : List Value) (t : TypeId) : Prop where
  lies : w.heap[n]? = some (.cells cs.toArray t (0, 0))
theorem Bk.new (w : World) (cs : List Value) (t : TypeId) : Bk (w.alloc (.cells cs.toArray t)) w.heap.size cs t := ⟨by
  show (w.heap.push (.cells cs.toArray t (0, 0)))[w.heap.size]? = _
  simp⟩
theorem Bk.lt {w : World} {n : Nat} {cs : List Value} {t : TypeId} (h : Bk w n cs t) : n < w.heap.size := (Array.getElem?_eq_some_iff.1 h.lies).1
theorem Bk.cell {w : World} {n : Nat} {cs : List Value} {t : TypeId} (h : Bk w n cs t) (k : Nat) {u : Value} (hu : cs[k]? = some u) : w.cell? ⟨n, k, none⟩ = some u := by
  simp only [World.cell?, h.lies]
  simpa using hu
theorem Bk.free {w : World} {n : Nat} {cs : List Value} {t : TypeId} (h : Bk w n cs t) (k : Nat) : w.frozen? ⟨n, k, none⟩ = false := by
  simp only [World.frozen?, h.lies]; simp
theorem Bk.below {w w' : World} {n : Nat} {cs : List Value} {t : TypeId} (h : Bk w n cs t) (hb : Below w.heap.size w w') : Bk w' n cs t := ⟨(hb.block n h.lt).trans h.lies⟩
theorem Bk.set {w : World} {n : Nat} {cs : List Value} {t : TypeId} (h : Bk w n cs t) (k : Nat) (u : Value) : Bk (w.setCell ⟨n, k, none⟩ u) n (cs.set k u) t := by
  refine ⟨?_⟩
  simp only [World.setCell, Array.getElem?_modify, if_true, h.lies]
  simp
theorem Bk.other {w : World} {n m : Nat} {cs : List Value} {t : TypeId} (h : Bk w n cs t) (hm : m ≠ n) (k : Nat) (u : Value) : Bk (w.setCell ⟨m, k, none⟩ u) n cs t := ⟨(Below.heap_setCell _ _ _ _ (fun e => hm e.symm)).trans h.lies⟩

end Go.Proofs.YtpkpkpiphgjbaaaGreatDoor

namespace Go.Proofs.YtpkpkpiphgjbaaaGreatDoor
open Go.RowKit

/-- The text of the first attribute of a name. -/
def fndS (ax : List (ByteArray × ByteArray)) (name : ByteArray) : ByteArray := match findA ax name with
  | none => ⟨#[]⟩
  | some i => (ax.getD i at0).2
theorem fnd_hit {ax : List (ByteArray × ByteArray)} {n : ByteArray} {k : Nat} (hk : k < ax.length) (h : findA ax n = some k) : fndS ax n = ax[k].2 ∧ (findA ax n).isSome = true := by
  unfold fndS
  rw [h]
  exact ⟨by show (ax.getD k at0).2 = _; rw [show ax.getD k at0 = ax[k] by simp [List.getD, hk]], rfl⟩
theorem fnd_miss {ax : List (ByteArray × ByteArray)} {n : ByteArray} (h : findA ax n = none) : fndS ax n = ⟨#[]⟩ ∧ (findA ax n).isSome = false := by
  unfold fndS
  rw [h]
  exact ⟨rfl, rfl⟩
end Go.Proofs.YtpkpkpiphgjbaaaGreatDoor

namespace Go.Proofs.YtpkpkpiphgjbaaaGreatDoor
open Go.RowKit

set_option maxRecDepth 100000 in
theorem index_two (x y : Value) : (∀ w, (Instr.index 133 (.agg #[x, y]) (.int .i64 0)).run Tryz.prog w = .ok x w) ∧ (∀ w, (Instr.index 133 (.agg #[x, y]) (.int .i64 1)).run Tryz.prog w = .ok y w) := ⟨fun _ => rfl, fun _ => rfl⟩
theorem opt_some' (n : Int) : optV (some n) = .tuple #[.int .i64 n, .bool true] := rfl
theorem opt_none' : optV none = .tuple #[.int .i64 0, .bool false] := rfl
theorem ret_fnd {a b : ByteArray} {c d : Bool} (h : a = b) (g : c = d) : Ending.returned (.tuple #[.string a, .bool c]) = .returned (.tuple #[.string b, .bool d]) := by rw [h, g]

set_option maxHeartbeats 4000000 in
set_option maxRecDepth 100000 in
theorem finder_any (v : Value) (hv : ∃ p n c, v = .slice p n c) (w : World) :
    Calls Tryz.prog 100 #[v] w fun e w' => e = .returned (.func (.func 138) #[] #[.pointer (some ⟨w.heap.size, 0, none⟩)]) ∧ w' = w.alloc (.cells #[v] 22) := by
  obtain ⟨p, n, c, rfl⟩ := hv
  go_enter Tryz.func100, Tryz.ntmps100
  go_wp2_with fail
  go_ret
  exact ⟨rfl, rfl⟩
set_option maxHeartbeats 4000000 in
set_option maxRecDepth 100000 in
theorem finder1_any (B : Nat) (v : Value) (ax : List (ByteArray × ByteArray)) (n : ByteArray) (w : World) (hB : w.cell? ⟨B, 0, none⟩ = some v) (hv : AttrsV w v ax) (hl : ax.length ≤ 4398046511104) :
    Calls Tryz.prog 138 #[.string n, .pointer (some ⟨B, 0, none⟩)] w fun e w' => e = .returned (.tuple #[.string (fndS ax n), .bool (findA ax n).isSome]) ∧ Below w.heap.size w w' := by
  obtain ⟨p, c, rfl, hk⟩ := hv
  have HIT := hide (fun k hk h e => fnd_hit (ax := ax) (n := n) (k := k) hk (find_hit (ax := ax) (n := n) (k := k) hk h e))
  have END := hide (fun h => fnd_miss (find_none (ax := ax) (n := n) h))
  generalize fndS ax n = R1 at *
  generalize (findA ax n).isSome = R2 at *
  go_enter Tryz.func138, Tryz.ntmps138
  go_wp2_with fail
  go_loopw [9] (fun iv wr => ∃ j : Nat, j ≤ ax.length ∧ iv = .int .i64 j ∧ Hid (∀ m (_ : m < ax.length), m < j → ¬ ax[m].1 = n) ∧ Hid (Below w.heap.size w wr)) (fun iv _ => ax.length - (intOf iv).toNat)
  case atStart => exact ⟨0, Nat.zero_le _, rfl, fun m _ h => by omega, Below.refl _ _⟩
  case round =>
    rename World => wr
    obtain ⟨j, hj, rfl, hd, BW⟩ := hrel
    by_cases h : j < ax.length
    · have i1 : (j : Int) < (ax.length : Int) := by omega
      rcases hk with hk | ⟨b, o, rfl, hk⟩
      · subst hk; simp at h
      have c0 := cell_below (hk j h).1 BW.out
      have c1 := cell_below (hk j h).2 BW.out
      have hlt : b < wr.heap.size := World.block_lt_of_cell? _ _ c0
      have hne : b ≠ wr.heap.size := by omega
      have NB := hide (BW.out.alloc BW.out.size (.cells #[.string ax[j].1, .string ax[j].2] 36))
      by_cases e : ax[j].1 = n
      · have E := hide (HIT.out j h hd.out e)
        have d : (ax[j].1.toList == n.toList) = true := by rw [txt_beq]; exact decide_eq_true e
        clear e hd HIT END hk
        generalize ax[j].1 = aj at *
        generalize ax[j].2 = bj at *
        go_wp2_with fail
        go_ret2
        exact ⟨ret_fnd E.out.1.symm E.out.2.symm, NB.out⟩
      · have d : (ax[j].1.toList == n.toList) = false := by rw [txt_beq]; exact decide_eq_false e
        have hd' : Hid (∀ m (_ : m < ax.length), m < j + 1 → ¬ ax[m].1 = n) := by
          intro m hm hmj
          rcases Nat.lt_or_ge m j with q | q
          · exact hd.out m hm q
          · obtain rfl : m = j := by omega
            exact e
        clear e hd HIT END hk
        generalize ax[j].1 = aj at *
        generalize ax[j].2 = bj at *
        go_wp2_with fail
        go_roundw
        case rel => exact ⟨j + 1, by omega, by go_num, hd', NB⟩
        case measure => simp [intOf]; omega
    · obtain rfl : j = ax.length := by omega
      have E := hide (END.out (fun m hm => hd.out m hm hm))
      clear hd HIT END hk
      go_wp2_with fail
      go_ret2
      exact ⟨ret_fnd E.out.1.symm E.out.2.symm, BW.out⟩
theorem attr_some {k : Int} {ax : List (ByteArray × ByteArray)} {n : ByteArray} (h : (findA ax n).isSome = true) : attrK k ax n = numK k (fndS ax n).data.toList := by
  unfold attrK fndS
  cases e : findA ax n with
  | none => rw [e] at h; cases h
  | some i => rfl
theorem attr_none {k : Int} {ax : List (ByteArray × ByteArray)} {n : ByteArray} (h : (findA ax n).isSome = false) : attrK k ax n = none := by
  unfold attrK
  cases e : findA ax n with
  | none => rfl
  | some i => rw [e] at h; cases h
theorem fnd_small {ax : List (ByteArray × ByteArray)} (hz : AxOK ax) (n : ByteArray) : (fndS ax n).size ≤ 100000 := by
  unfold fndS
  split
  · decide
  · rename_i i e
    obtain ⟨hi, _, _⟩ := List.findIdx?_eq_some_iff_getElem.1 (show ax.findIdx? (isN n) = some i from e)
    rw [show ax.getD i at0 = ax[i] by simp [List.getD, hi]]
    exact hz.val _ (List.getElem_mem hi)

set_option maxHeartbeats 4000000 in
set_option maxRecDepth 100000 in
theorem numberOf_any (k : Int) (B : Nat) (v : Value) (ax : List (ByteArray × ByteArray)) (n : ByteArray) (w : World) (hB : w.cell? ⟨B, 0, none⟩ = some v) (hv : AttrsV w v ax) (hz : AxOK ax) (hT : StTabs w) :
    Calls Tryz.prog 99 #[.int .i64 k, (.func (.func 138) #[] #[.pointer (some ⟨B, 0, none⟩)]), .string n] w fun e w' => e = .returned (optV (attrK k ax n)) ∧ Below w.heap.size w w' := by
  have HF := hide (finder1_any B v ax n w hB hv hz.len)
  cases hf : (findA ax n).isSome with
  | true =>
    have E := hide (attr_some (k := k) hf)
    have HV := hide (fun W (hb : Below w.heap.size w W) => stValue_any k (fndS ax n) W (fnd_small hz n) (hT.below hb))
    rw [← E.out] at HV
    rw [hf] at HF
    generalize attrK k ax n = r at *
    generalize fndS ax n = t at *
    unfold optV at *
    clear E hf hT hv hz hB
    go_enter Tryz.func99, Tryz.ntmps99
    go_wp2_with fail
    refine HF.out.mono ?_
    rintro e u1 ⟨rfl, b1⟩
    go_wp2_with fail
    refine (HV.out _ b1).mono ?_
    rintro e u2 ⟨rfl, b2⟩
    go_wp2_with fail
    go_ret2
    exact ⟨rfl, chain b1 b2⟩
  | false =>
    have E := hide (attr_none (k := k) hf)
    rw [hf] at HF
    generalize fndS ax n = t at *
    clear hf hT hv hz hB
    go_enter Tryz.func99, Tryz.ntmps99
    go_wp2_with fail
    refine HF.out.mono ?_
    rintro e u1 ⟨rfl, b1⟩
    go_wp2_with fail
    go_ret2
    exact ⟨by rw [E.out]; rfl, b1⟩
/-- A function that looks for attributes, in a later world. -/
structure FndAt (w : World) (B : Nat) (v : Value) (ax : List (ByteArray × ByteArray)) : Prop where
  cell : w.cell? ⟨B, 0, none⟩ = some v
  row : AttrsV w v ax
theorem FndAt.below {w w' : World} {B : Nat} {v : Value} {ax : List (ByteArray × ByteArray)} (h : FndAt w B v ax) (hb : Below w.heap.size w w') : FndAt w' B v ax := ⟨cell_below h.cell hb, h.row.below hb⟩
theorem fnd_new {w : World} {v : Value} {ax : List (ByteArray × ByteArray)} (hv : AttrsV w v ax) : FndAt (w.alloc (.cells #[v] 22)) w.heap.size v ax :=
  ⟨(Bk.new w [v] 22).cell 0 rfl, hv.below ((Below.refl _ w).alloc (Nat.le_refl _) _)⟩

set_option maxHeartbeats 4000000 in
set_option maxRecDepth 100000 in
theorem stLeast_any (k : Int) (v : Value) (ax : List (ByteArray × ByteArray)) (w : World) (hv : AttrsV w v ax) (hz : AxOK ax) (hT : StTabs w) :
    Calls Tryz.prog 63 #[.int .i64 k, v] w fun e w' => e = .returned (optV (leastK k ax)) ∧ Below w.heap.size w w' := by
  have HF := hide (finder_any v (by obtain ⟨p, c, e, _⟩ := hv; exact ⟨p, _, c, e⟩) w)
  have B0 : Hid (Below w.heap.size w (w.alloc (.cells #[v] 22))) := (Below.refl _ w).alloc (Nat.le_refl _) _
  have HN := hide (fun n W (hb : Below w.heap.size w W) (h : FndAt W w.heap.size v ax) => numberOf_any k w.heap.size v ax n W h.cell h.row hz (hT.below hb))
  have F0 := hide (fnd_new hv)
  have E : Hid (leastK k ax = if (attrK k ax minS).isSome then attrK k ax minS else if k = 14 then some 0 else none) := rfl
  replace HN := hide (HN.out minS)
  rw [show minS = ⟨#[109, 105, 110]⟩ from rfl] at HN E
  generalize leastK k ax = L at *
  generalize attrK k ax ⟨#[109, 105, 110]⟩ = A at *
  obtain ⟨p, c, rfl, _⟩ := hv
  clear hz hT
  cases A with
  | some n =>
    have e : L = some n := E.out
    subst e
    clear E
    unfold optV at *
    go_enter Tryz.func63, Tryz.ntmps63
    go_wp2_with fail
    refine HF.out.mono ?_
    rintro e w0 ⟨rfl, e0⟩
    rw [← e0] at B0 F0
    clear e0 HF
    go_wp2_with fail
    refine (HN.out _ B0.out F0.out).mono ?_
    rintro e u1 ⟨rfl, b1⟩
    have B1 := hide (chain B0.out b1)
    go_wp2_with fail
    go_ret2
    exact ⟨rfl, B1.out⟩
  | none =>
    by_cases h : k = 14
    · have e : L = some 0 := by rw [E.out]; exact if_pos h
      subst e h
      clear E
      unfold optV at *
      go_enter Tryz.func63, Tryz.ntmps63
      go_wp2_with fail
      refine HF.out.mono ?_
      rintro e w0 ⟨rfl, e0⟩
      rw [← e0] at B0 F0
      clear e0 HF
      go_wp2_with fail
      refine (HN.out _ B0.out F0.out).mono ?_
      rintro e u1 ⟨rfl, b1⟩
      have B1 := hide (chain B0.out b1)
      go_wp2_with fail
      go_ret2
      exact ⟨rfl, B1.out⟩
    · have e : L = none := by rw [E.out]; exact if_neg h
      have b14 : (k == 14) = false := beq_eq_false_iff_ne.2 h
      subst e
      clear E
      unfold optV at *
      go_enter Tryz.func63, Tryz.ntmps63
      go_wp2_with fail
      refine HF.out.mono ?_
      rintro e w0 ⟨rfl, e0⟩
      rw [← e0] at B0 F0
      clear e0 HF
      go_wp2_with fail
      refine (HN.out _ B0.out F0.out).mono ?_
      rintro e u1 ⟨rfl, b1⟩
      have B1 := hide (chain B0.out b1)
      go_wp2_with fail
      go_ret2
      exact ⟨rfl, B1.out⟩
set_option maxHeartbeats 4000000 in
set_option maxRecDepth 100000 in
theorem stMost_any (k : Int) (v : Value) (ax : List (ByteArray × ByteArray)) (w : World) (hv : AttrsV w v ax) (hz : AxOK ax) (hT : StTabs w) :
    Calls Tryz.prog 64 #[.int .i64 k, v] w fun e w' => e = .returned (optV (mostK k ax)) ∧ Below w.heap.size w w' := by
  have HF := hide (finder_any v (by obtain ⟨p, c, e, _⟩ := hv; exact ⟨p, _, c, e⟩) w)
  have B0 : Hid (Below w.heap.size w (w.alloc (.cells #[v] 22))) := (Below.refl _ w).alloc (Nat.le_refl _) _
  have HN := hide (fun n W (hb : Below w.heap.size w W) (h : FndAt W w.heap.size v ax) => numberOf_any k w.heap.size v ax n W h.cell h.row hz (hT.below hb))
  have F0 := hide (fnd_new hv)
  have HL := hide (fun W (hb : Below w.heap.size w W) => stLeast_any k v ax W (hv.below hb) hz (hT.below hb))
  have E : Hid (mostK k ax = if (attrK k ax maxS).isSome then attrK k ax maxS else if k = 14 then some (if 100000000 < optI (leastK k ax) then optI (leastK k ax) else 100000000) else none) := rfl
  replace HN := hide (HN.out maxS)
  rw [show maxS = ⟨#[109, 97, 120]⟩ from rfl] at HN E
  generalize mostK k ax = L at *
  generalize attrK k ax ⟨#[109, 97, 120]⟩ = A at *
  generalize leastK k ax = Lo at *
  obtain ⟨p, c, rfl, _⟩ := hv
  clear hz hT
  cases A with
  | some n =>
    have e : L = some n := E.out
    subst e
    clear E HL
    unfold optV at *
    go_enter Tryz.func64, Tryz.ntmps64
    go_wp2_with fail
    refine HF.out.mono ?_
    rintro e w0 ⟨rfl, e0⟩
    rw [← e0] at B0 F0
    clear e0 HF
    go_wp2_with fail
    refine (HN.out _ B0.out F0.out).mono ?_
    rintro e u1 ⟨rfl, b1⟩
    have B1 := hide (chain B0.out b1)
    go_wp2_with fail
    go_ret2
    exact ⟨rfl, B1.out⟩
  | none =>
    by_cases h : k = 14
    · have e : L = some (if 100000000 < optI Lo then optI Lo else 100000000) := by rw [E.out]; exact if_pos h
      subst h
      clear E
      unfold optV at *
      generalize optI Lo = lo at *
      generalize Lo.isSome = is at *
      have M : Hid (L = some (max 100000000 lo)) := by show _ = _; rw [e]; congr 1; split <;> omega
      clear e
      go_enter Tryz.func64, Tryz.ntmps64
      go_wp2_with fail
      refine HF.out.mono ?_
      rintro e w0 ⟨rfl, e0⟩
      rw [← e0] at B0 F0
      clear e0 HF
      go_wp2_with fail
      refine (HN.out _ B0.out F0.out).mono ?_
      rintro e u1 ⟨rfl, b1⟩
      have B1 := hide (chain B0.out b1)
      go_wp2_with fail
      refine (HL.out _ B1.out).mono ?_
      rintro e u2 ⟨rfl, b2⟩
      go_wp2_with fail
      go_ret2
      exact ⟨by rw [M.out]; rfl, chain B1.out b2⟩
    · have e : L = none := by rw [E.out]; exact if_neg h
      have b14 : (k == 14) = false := beq_eq_false_iff_ne.2 h
      subst e
      clear E HL
      unfold optV at *
      go_enter Tryz.func64, Tryz.ntmps64
      go_wp2_with fail
      refine HF.out.mono ?_
      rintro e w0 ⟨rfl, e0⟩
      rw [← e0] at B0 F0
      clear e0 HF
      go_wp2_with fail
      refine (HN.out _ B0.out F0.out).mono ?_
      rintro e u1 ⟨rfl, b1⟩
      have B1 := hide (chain B0.out b1)
      go_wp2_with fail
      go_ret2
      exact ⟨rfl, B1.out⟩
set_option maxHeartbeats 4000000 in
set_option maxRecDepth 100000 in
theorem stBase_any (k : Int) (v : Value) (ax : List (ByteArray × ByteArray)) (w : World) (hv : AttrsV w v ax) (hz : AxOK ax) (hT : StTabs w) :
    Calls Tryz.prog 80 #[.int .i64 k, v] w fun e w' => e = .returned (.int .i64 (baseK k ax)) ∧ Below w.heap.size w w' := by
  have HF := hide (finder_any v (by obtain ⟨p, c, e, _⟩ := hv; exact ⟨p, _, c, e⟩) w)
  have B0 : Hid (Below w.heap.size w (w.alloc (.cells #[v] 22))) := (Below.refl _ w).alloc (Nat.le_refl _) _
  have HN := hide (fun n W (hb : Below w.heap.size w W) (h : FndAt W w.heap.size v ax) => numberOf_any k w.heap.size v ax n W h.cell h.row hz (hT.below hb))
  have F0 := hide (fnd_new hv)
  have E : Hid (baseK k ax = if (attrK k ax minS).isSome then optI (attrK k ax minS) else if (attrK k ax valS).isSome then optI (attrK k ax valS) else if k = 10 then -259200000 else 0) := rfl
  have H1 := hide (HN.out minS)
  have H2 := hide (HN.out valS)
  rw [show minS = ⟨#[109, 105, 110]⟩ from rfl] at H1 E
  rw [show valS = ⟨#[118, 97, 108, 117, 101]⟩ from rfl] at H2 E
  generalize baseK k ax = L at *
  generalize attrK k ax ⟨#[109, 105, 110]⟩ = A at *
  generalize attrK k ax ⟨#[118, 97, 108, 117, 101]⟩ = C at *
  obtain ⟨p, c, rfl, _⟩ := hv
  clear hz hT HN
  have x0 := (index_two (.string ⟨#[109, 105, 110]⟩) (.string ⟨#[118, 97, 108, 117, 101]⟩)).1
  have x1 := (index_two (.string ⟨#[109, 105, 110]⟩) (.string ⟨#[118, 97, 108, 117, 101]⟩)).2
  go_enter Tryz.func80, Tryz.ntmps80
  go_wp2_with fail
  refine HF.out.mono ?_
  rintro e w0 ⟨rfl, e0⟩
  rw [← e0] at B0 F0
  clear e0 HF
  go_wp2_with fail
  go_loopw [13] (fun iv wr => ∃ j : Nat, j ≤ 2 ∧ iv = .int .i64 j ∧ Hid (1 ≤ j → A = none) ∧ Hid (j = 2 → C = none) ∧ Hid (Below w.heap.size w wr) ∧ Hid (FndAt wr w.heap.size (.slice p ax.length c) ax)) (fun iv _ => 2 - (intOf iv).toNat)
  case atStart => exact ⟨0, by decide, rfl, fun q => by omega, fun q => by omega, B0, F0⟩
  case round =>
    rename World => wr
    obtain ⟨j, hj, rfl, a1, a2, BW, FW⟩ := hrel
    clear B0 F0
    rcases (show j = 0 ∨ j = 1 ∨ j = 2 by omega) with rfl | rfl | rfl
    · cases A with
      | some n =>
        have e : L = n := by rw [E.out]; rfl
        rw [opt_some'] at H1
        clear E
        go_wp2_with fail
        refine (H1.out _ BW.out FW.out).mono ?_
        rintro e1 u1 ⟨rfl, b1⟩
        go_wp2_with fail
        go_ret
        exact ⟨ret_int e.symm, chain BW.out b1⟩
      | none =>
        rw [opt_none'] at H1
        go_wp2_with fail
        refine (H1.out _ BW.out FW.out).mono ?_
        rintro e1 u1 ⟨rfl, b1⟩
        go_wp2_with fail
        go_roundw
        case rel => exact ⟨1, by decide, rfl, fun _ => by trivial, fun q => absurd q (by decide), chain BW.out b1, FW.out.below b1⟩
        case measure => simp [intOf]
    · obtain rfl : A = none := a1.out (Nat.le_refl _)
      cases C with
      | some n =>
        have e : L = n := by rw [E.out]; rfl
        rw [opt_some'] at H2
        clear E
        go_wp2_with fail
        refine (H2.out _ BW.out FW.out).mono ?_
        rintro e1 u1 ⟨rfl, b1⟩
        go_wp2_with fail
        go_ret
        exact ⟨ret_int e.symm, chain BW.out b1⟩
      | none =>
        rw [opt_none'] at H2
        go_wp2_with fail
        refine (H2.out _ BW.out FW.out).mono ?_
        rintro e1 u1 ⟨rfl, b1⟩
        go_wp2_with fail
        go_roundw
        case rel => exact ⟨2, by decide, rfl, fun _ => by trivial, fun _ => by trivial, chain BW.out b1, FW.out.below b1⟩
        case measure => simp [intOf]
    · obtain rfl : A = none := a1.out (by decide)
      obtain rfl : C = none := a2.out rfl
      by_cases h : k = 10
      · have e : Hid (L = -259200000) := by show _ = _; rw [E.out]; exact if_pos h
        subst h
        clear E
        go_wp2_with fail
        go_ret
        exact ⟨ret_int e.out.symm, BW.out⟩
      · have e : Hid (L = 0) := by show _ = _; rw [E.out]; exact if_neg h
        have b10 : (k == 10) = false := beq_eq_false_iff_ne.2 h
        clear E
        go_wp2_with fail
        go_ret
        exact ⟨ret_int e.out.symm, BW.out⟩

end Go.Proofs.YtpkpkpiphgjbaaaGreatDoor
