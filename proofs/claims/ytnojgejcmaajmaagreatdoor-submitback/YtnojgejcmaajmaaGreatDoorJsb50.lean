/- The program's read of layer 20. The program's Decode of layer 20. The program's functions of layer 24 that its laws call, by the names that the laws' walks use, over the tables that each law's road names. -/
import Derived.Test.YtnojgejcmaajmaaGreatDoorJsb47
import Derived.Test.YtnojgejcmaajmaaGreatDoorJsb51

namespace Go.Proofs.YtnojgejcmaajmaaGreatDoor
open Go.RowKit
set_option maxRecDepth 100000
def enVal (e : En) : Value := .agg #[.string e.name, .string e.val, .bool e.file, .string e.fname, .string e.typ]
def rdV : Option En → Value
  | none => .tuple #[enVal ⟨⟨#[]⟩, ⟨#[]⟩, false, ⟨#[]⟩, ⟨#[]⟩⟩, .bool false]
  | some e => .tuple #[enVal e, .bool true]
theorem readQ (s : List UInt8) : readL s = match cutL c4L s with
  | none => none
  | some (h, v) => match quoP c1L h with
    | none => none
    | some (n, r) => if r = [] then some ⟨txt (unL n), txt v, false, ⟨#[]⟩, ⟨#[]⟩⟩ else match quoP c2L r with
      | none => none
      | some (f, r2) => if c3L.isPrefixOf r2 = true then (if brk (r2.drop 16) = true then none else some ⟨txt (unL n), txt v, true, txt (unL f), txt (r2.drop 16)⟩) else none := by
  unfold readL
  cases cutL c4L s with
  | none => rfl
  | some pr =>
    obtain ⟨h, v⟩ := pr
    show (if c1L.isPrefixOf h = true then match quoL (h.drop 38) with | none => none | some (n, r) => readH n r v else none) = match quoP c1L h with | none => none | some (n, r) => _
    unfold quoP
    by_cases g : c1L.isPrefixOf h = true
    · rw [if_pos g, if_pos g]
      show (match quoL (h.drop 38) with | none => none | some (n, r) => readH n r v) = match quoL (h.drop 38) with | none => none | some (n, r) => _
      cases quoL (h.drop 38) with
      | none => rfl
      | some pr =>
        obtain ⟨n, r⟩ := pr
        show readH n r v = if r = [] then _ else _
        unfold readH
        by_cases z : r = []
        · rw [if_pos z, if_pos z]
        · rw [if_neg z, if_neg z]
          by_cases g2 : c2L.isPrefixOf r = true
          · rw [if_pos g2, if_pos g2]
            show (match quoL (r.drop 12) with | none => none | some (f, r2) => _) = match quoL (r.drop 12) with | none => none | some (f, r2) => _
            cases quoL (r.drop 12) with
            | none => rfl
            | some pr =>
              obtain ⟨f, r2⟩ := pr
              show (if c3L.isPrefixOf r2 = true ∧ brk (r2.drop 16) = false then _ else none) = if c3L.isPrefixOf r2 = true then _ else none
              by_cases g3 : c3L.isPrefixOf r2 = true
              · rw [if_pos g3]
                cases b : brk (r2.drop 16) with
                | true => rw [if_neg (fun t => by cases t.2), if_pos rfl]
                | false => rw [if_pos ⟨g3, rfl⟩, if_neg (by decide)]
              · rw [if_neg g3, if_neg (fun t => g3 t.1)]
          · rw [if_neg g2, if_neg g2]
    · rw [if_neg g, if_neg g]
theorem txt_noP (l : List UInt8) : (txt l).toList = [] ↔ l = [] := by rw [ByteArray.toList_eq]; exact Iff.rfl
theorem txt_someP {l : List UInt8} (h : l ≠ []) : (txt l).toList.isEmpty = false := by
  cases g : (txt l).toList.isEmpty with
  | false => rfl
  | true => exact absurd ((txt_noP l).1 (List.isEmpty_iff.1 g)) h
set_option maxHeartbeats 8000000 in
theorem read_any (l : List UInt8) (w : World) (hs : l.length ≤ 1073741824) (hT : PtTabs w) :
    Calls Tryz.prog 53 #[.string (txt l)] w fun e w' => e = .returned (rdV (readL l)) ∧ Below w.heap.size w w' := by
  have HC := hide (fun W (h : Below w.heap.size w W) => cut_anyT c4L l W hs (by unfold c4L; simp) (hT.below h).mx)
  have EC : cutT c4L l = match cutL c4L l with | none => (l, [], false) | some (p, r) => (p, r, true) := rfl
  have LC := cutT_len c4L l
  rw [EC] at HC LC
  clear EC
  have KA := hide (Bk.new w [.string ⟨#[]⟩, .string ⟨#[]⟩, .bool false, .string ⟨#[]⟩, .string ⟨#[]⟩] 76)
  have BA : Hid (Below w.heap.size w (w.alloc (.cells #[.string ⟨#[]⟩, .string ⟨#[]⟩, .bool false, .string ⟨#[]⟩, .string ⟨#[]⟩] 76))) := (Below.refl _ w).alloc (Nat.le_refl _) _
  cases cq : cutL c4L l with
  | none =>
    rw [cq] at HC
    have HQ := hide (fun W (h : Below w.heap.size w W) => quoted_any c1L l W hs (hT.below h))
    have ER : Hid (readL l = none) := by show _ = _; rw [readQ, cq]
    rw [ER.out]
    show Calls _ _ _ _ fun e w' => e = .returned (.tuple #[.agg #[.string ⟨#[]⟩, .string ⟨#[]⟩, .bool false, .string ⟨#[]⟩, .string ⟨#[]⟩], .bool false]) ∧ Below w.heap.size w w'
    clear ER
    clear cq LC hT
    cases q1 : quoP c1L l with
    | none =>
      rw [q1, show quoV none = .tuple #[.string ⟨#[]⟩, .string ⟨#[]⟩, .bool false] from rfl] at HQ
      clear q1
      go_enter Tryz.func53, Tryz.ntmps53
      go_wp2_with fail
      refine (HC.out _ BA.out).mono ?_
      rintro e w2 ⟨rfl, b2⟩
      have B2 := hide (chain BA.out b2)
      have K2 := hide (KA.out.below b2)
      clear b2 HC
      go_wp2_with fail
      refine (HQ.out _ B2.out).mono ?_
      rintro e w3 ⟨rfl, b3⟩
      have B3 := hide (chain B2.out b3)
      have K3 := hide (K2.out.below b3)
      clear b3 HQ B2 K2
      have g0 := K3.out.cell 0 rfl
      have f0 := K3.out.free 0
      have g1 := K3.out.cell 1 rfl
      have f1 := K3.out.free 1
      have g2 := K3.out.cell 2 rfl
      have f2 := K3.out.free 2
      have g3 := K3.out.cell 3 rfl
      have f3 := K3.out.free 3
      have g4 := K3.out.cell 4 rfl
      have f4 := K3.out.free 4
      have KZ := hide (((((K3.out.set 0 (.string ⟨#[]⟩)).set 1 (.string ⟨#[]⟩)).set 2 (.bool false)).set 3 (.string ⟨#[]⟩)).set 4 (.string ⟨#[]⟩))
      have BZ := hide (low5 B3.out (Nat.le_refl _) (.string ⟨#[]⟩) (.string ⟨#[]⟩) (.bool false) (.string ⟨#[]⟩) (.string ⟨#[]⟩))
      have r0 := KZ.out.cell 0 rfl
      have r1 := KZ.out.cell 1 rfl
      have r2 := KZ.out.cell 2 rfl
      have r3 := KZ.out.cell 3 rfl
      have r4 := KZ.out.cell 4 rfl
      go_wp2_with fail
      refine bodyPost_ret (v := .tuple #[.agg #[.string ⟨#[]⟩, .string ⟨#[]⟩, .bool false, .string ⟨#[]⟩, .string ⟨#[]⟩], .bool false]) (by simp [results, go_sem, r0, r1, r2, r3, r4]) rfl ?_
      exact ⟨rfl, BZ.out⟩
    | some nr =>
      obtain ⟨n, r⟩ := nr
      rw [q1, show quoV (some (n, r)) = .tuple #[.string (txt (unL n)), .string (txt r), .bool true] from rfl] at HQ
      clear q1
      go_enter Tryz.func53, Tryz.ntmps53
      go_wp2_with fail
      refine (HC.out _ BA.out).mono ?_
      rintro e w2 ⟨rfl, b2⟩
      have B2 := hide (chain BA.out b2)
      have K2 := hide (KA.out.below b2)
      clear b2 HC
      go_wp2_with fail
      refine (HQ.out _ B2.out).mono ?_
      rintro e w3 ⟨rfl, b3⟩
      have B3 := hide (chain B2.out b3)
      have K3 := hide (K2.out.below b3)
      clear b3 HQ B2 K2
      have g0 := K3.out.cell 0 rfl
      have f0 := K3.out.free 0
      have g1 := K3.out.cell 1 rfl
      have f1 := K3.out.free 1
      have g2 := K3.out.cell 2 rfl
      have f2 := K3.out.free 2
      have g3 := K3.out.cell 3 rfl
      have f3 := K3.out.free 3
      have g4 := K3.out.cell 4 rfl
      have f4 := K3.out.free 4
      have KZ := hide (((((K3.out.set 0 (.string ⟨#[]⟩)).set 1 (.string ⟨#[]⟩)).set 2 (.bool false)).set 3 (.string ⟨#[]⟩)).set 4 (.string ⟨#[]⟩))
      have BZ := hide (low5 B3.out (Nat.le_refl _) (.string ⟨#[]⟩) (.string ⟨#[]⟩) (.bool false) (.string ⟨#[]⟩) (.string ⟨#[]⟩))
      have r0 := KZ.out.cell 0 rfl
      have r1 := KZ.out.cell 1 rfl
      have r2 := KZ.out.cell 2 rfl
      have r3 := KZ.out.cell 3 rfl
      have r4 := KZ.out.cell 4 rfl
      go_wp2_with fail
      refine bodyPost_ret (v := .tuple #[.agg #[.string ⟨#[]⟩, .string ⟨#[]⟩, .bool false, .string ⟨#[]⟩, .string ⟨#[]⟩], .bool false]) (by simp [results, go_sem, r0, r1, r2, r3, r4]) rfl ?_
      exact ⟨rfl, BZ.out⟩
  | some hv =>
    obtain ⟨h, v⟩ := hv
    rw [cq] at HC LC
    have lh : h.length ≤ 1073741824 := by have : h.length ≤ l.length := LC.1; omega
    have lv : v.length ≤ 1073741824 := by have : v.length ≤ l.length := LC.2; omega
    have HQ := hide (fun W (b : Below w.heap.size w W) => quoted_any c1L h W lh (hT.below b))
    have HV := hide (fun W => clone_any (txt v) W (by show v.length ≤ _; omega))
    clear LC hs
    cases q1 : quoP c1L h with
    | none =>
      rw [q1, show quoV none = .tuple #[.string ⟨#[]⟩, .string ⟨#[]⟩, .bool false] from rfl] at HQ
      have ER : Hid (readL l = none) := by show _ = _; simp [readQ, cq, q1]
      rw [ER.out]
      show Calls _ _ _ _ fun e w' => e = .returned (.tuple #[.agg #[.string ⟨#[]⟩, .string ⟨#[]⟩, .bool false, .string ⟨#[]⟩, .string ⟨#[]⟩], .bool false]) ∧ Below w.heap.size w w'
      clear ER
      clear cq q1 hT HV
      go_enter Tryz.func53, Tryz.ntmps53
      go_wp2_with fail
      refine (HC.out _ BA.out).mono ?_
      rintro e w2 ⟨rfl, b2⟩
      have B2 := hide (chain BA.out b2)
      have K2 := hide (KA.out.below b2)
      clear b2 HC
      go_wp2_with fail
      refine (HQ.out _ B2.out).mono ?_
      rintro e w3 ⟨rfl, b3⟩
      have B3 := hide (chain B2.out b3)
      have K3 := hide (K2.out.below b3)
      clear b3 HQ B2 K2
      have g0 := K3.out.cell 0 rfl
      have f0 := K3.out.free 0
      have g1 := K3.out.cell 1 rfl
      have f1 := K3.out.free 1
      have g2 := K3.out.cell 2 rfl
      have f2 := K3.out.free 2
      have g3 := K3.out.cell 3 rfl
      have f3 := K3.out.free 3
      have g4 := K3.out.cell 4 rfl
      have f4 := K3.out.free 4
      have KZ := hide (((((K3.out.set 0 (.string ⟨#[]⟩)).set 1 (.string ⟨#[]⟩)).set 2 (.bool false)).set 3 (.string ⟨#[]⟩)).set 4 (.string ⟨#[]⟩))
      have BZ := hide (low5 B3.out (Nat.le_refl _) (.string ⟨#[]⟩) (.string ⟨#[]⟩) (.bool false) (.string ⟨#[]⟩) (.string ⟨#[]⟩))
      have r0 := KZ.out.cell 0 rfl
      have r1 := KZ.out.cell 1 rfl
      have r2 := KZ.out.cell 2 rfl
      have r3 := KZ.out.cell 3 rfl
      have r4 := KZ.out.cell 4 rfl
      go_wp2_with fail
      refine bodyPost_ret (v := .tuple #[.agg #[.string ⟨#[]⟩, .string ⟨#[]⟩, .bool false, .string ⟨#[]⟩, .string ⟨#[]⟩], .bool false]) (by simp [results, go_sem, r0, r1, r2, r3, r4]) rfl ?_
      exact ⟨rfl, BZ.out⟩
    | some nr =>
      obtain ⟨n, r⟩ := nr
      obtain ⟨ln, lr⟩ := quoP_len q1
      rw [q1, show quoV (some (n, r)) = .tuple #[.string (txt (unL n)), .string (txt r), .bool true] from rfl] at HQ
      by_cases z : r = []
      · subst z
        have n1 := (txt_noP []).2 rfl
        have ER : Hid (readL l = some ⟨txt (unL n), txt v, false, ⟨#[]⟩, ⟨#[]⟩⟩) := by show _ = _; simp [readQ, cq, q1]
        rw [ER.out]
        show Calls _ _ _ _ fun e w' => e = .returned (.tuple #[.agg #[.string (txt (unL n)), .string (txt v), .bool false, .string ⟨#[]⟩, .string ⟨#[]⟩], .bool true]) ∧ Below w.heap.size w w'
        clear ER cq q1 hT ln lr lh lv
        go_enter Tryz.func53, Tryz.ntmps53
        go_wp2_with fail
        refine (HC.out _ BA.out).mono ?_
        rintro e w2 ⟨rfl, b2⟩
        have B2 := hide (chain BA.out b2)
        have K2 := hide (KA.out.below b2)
        clear b2 HC
        go_wp2_with fail
        refine (HQ.out _ B2.out).mono ?_
        rintro e w3 ⟨rfl, b3⟩
        have B3 := hide (chain B2.out b3)
        have K3 := hide (K2.out.below b3)
        clear b3 HQ B2 K2
        go_wp2_with fail
        refine (HV.out _).mono ?_
        rintro e w4 ⟨rfl, b4⟩
        have B4 := hide (chain B3.out b4)
        have K4 := hide (K3.out.below b4)
        clear b4
        have KE := hide (Bk.new w4 [.string (txt (unL n)), .string (txt v), .bool false, .string ⟨#[]⟩, .string ⟨#[]⟩] 76)
        have AE : Below w4.heap.size w4 (w4.alloc (.cells #[.string (txt (unL n)), .string (txt v), .bool false, .string ⟨#[]⟩, .string ⟨#[]⟩] 76)) := (Below.refl _ _).alloc (Nat.le_refl _) _
        have B5 := hide (chain B4.out AE)
        have K5 := hide (K4.out.below AE)
        have GE := hide B4.out.size
        have NE : Hid (w4.heap.size ≠ w.heap.size) := by show _ ≠ _; have := K4.out.lt; omega
        clear AE
        have y0 := KE.out.cell 0 rfl
        have y1 := KE.out.cell 1 rfl
        have y2 := KE.out.cell 2 rfl
        have y3 := KE.out.cell 3 rfl
        have y4 := KE.out.cell 4 rfl
        have g0 := K5.out.cell 0 rfl
        have f0 := K5.out.free 0
        have g1 := K5.out.cell 1 rfl
        have f1 := K5.out.free 1
        have g2 := K5.out.cell 2 rfl
        have f2 := K5.out.free 2
        have g3 := K5.out.cell 3 rfl
        have f3 := K5.out.free 3
        have g4 := K5.out.cell 4 rfl
        have f4 := K5.out.free 4
        have KZ := hide (((((K5.out.set 0 (.string (txt (unL n)))).set 1 (.string (txt v))).set 2 (.bool false)).set 3 (.string ⟨#[]⟩)).set 4 (.string ⟨#[]⟩))
        have BZ := hide (low5 B5.out (Nat.le_refl _) (.string (txt (unL n))) (.string (txt v)) (.bool false) (.string ⟨#[]⟩) (.string ⟨#[]⟩))
        have r0 := KZ.out.cell 0 rfl
        have r1 := KZ.out.cell 1 rfl
        have r2 := KZ.out.cell 2 rfl
        have r3 := KZ.out.cell 3 rfl
        have r4 := KZ.out.cell 4 rfl
        go_wp2_with fail
        refine bodyPost_ret (v := .tuple #[.agg #[.string (txt (unL n)), .string (txt v), .bool false, .string ⟨#[]⟩, .string ⟨#[]⟩], .bool true]) (by simp [results, go_sem, r0, r1, r2, r3, r4]) rfl ?_
        exact ⟨rfl, BZ.out⟩
      · have n1 : ¬ (txt r).toList = [] := fun t => z ((txt_noP r).1 t)
        have n2 := txt_someP z
        have HQ2 := hide (fun W (b : Below w.heap.size w W) => quoted_any c2L r W (by omega) (hT.below b))
        cases q2 : quoP c2L r with
        | none =>
          rw [q2, show quoV none = .tuple #[.string ⟨#[]⟩, .string ⟨#[]⟩, .bool false] from rfl] at HQ2
          have ER : Hid (readL l = none) := by show _ = _; simp [readQ, cq, q1, z, q2]
          rw [ER.out]
          show Calls _ _ _ _ fun e w' => e = .returned (.tuple #[.agg #[.string ⟨#[]⟩, .string ⟨#[]⟩, .bool false, .string ⟨#[]⟩, .string ⟨#[]⟩], .bool false]) ∧ Below w.heap.size w w'
          clear ER
          have HP := hide (fun W => cutPreP_any [] c3L W)
          rw [show (if c3L.isPrefixOf ([] : List UInt8) = true then ([] : List UInt8).drop c3L.length else []) = [] from rfl, show c3L.isPrefixOf ([] : List UInt8) = false from rfl] at HP
          clear cq q1 q2 z hT ln lr lh lv
          go_enter Tryz.func53, Tryz.ntmps53
          go_wp2_with fail
          refine (HC.out _ BA.out).mono ?_
          rintro e w2 ⟨rfl, b2⟩
          have B2 := hide (chain BA.out b2)
          have K2 := hide (KA.out.below b2)
          clear b2 HC
          go_wp2_with fail
          refine (HQ.out _ B2.out).mono ?_
          rintro e w3 ⟨rfl, b3⟩
          have B3 := hide (chain B2.out b3)
          have K3 := hide (K2.out.below b3)
          clear b3 HQ B2 K2
          go_wp2_with fail
          refine (HV.out _).mono ?_
          rintro e w4 ⟨rfl, b4⟩
          have B4 := hide (chain B3.out b4)
          have K4 := hide (K3.out.below b4)
          clear b4
          have KE := hide (Bk.new w4 [.string (txt (unL n)), .string (txt v), .bool false, .string ⟨#[]⟩, .string ⟨#[]⟩] 76)
          have AE : Below w4.heap.size w4 (w4.alloc (.cells #[.string (txt (unL n)), .string (txt v), .bool false, .string ⟨#[]⟩, .string ⟨#[]⟩] 76)) := (Below.refl _ _).alloc (Nat.le_refl _) _
          have B5 := hide (chain B4.out AE)
          have K5 := hide (K4.out.below AE)
          have GE := hide B4.out.size
          have NE : Hid (w4.heap.size ≠ w.heap.size) := by show _ ≠ _; have := K4.out.lt; omega
          clear AE
          go_wp2_with fail
          refine (HQ2.out _ B5.out).mono ?_
          rintro e w6 ⟨rfl, b6⟩
          have B6 := hide (chain B5.out b6)
          have K6 := hide (K5.out.below b6)
          clear b6 HQ2 B5 K5
          go_wp2_with fail
          refine (HP.out _).mono ?_
          rintro e w7 ⟨rfl, hu⟩
          obtain rfl := hu.symm
          have g0 := K6.out.cell 0 rfl
          have f0 := K6.out.free 0
          have g1 := K6.out.cell 1 rfl
          have f1 := K6.out.free 1
          have g2 := K6.out.cell 2 rfl
          have f2 := K6.out.free 2
          have g3 := K6.out.cell 3 rfl
          have f3 := K6.out.free 3
          have g4 := K6.out.cell 4 rfl
          have f4 := K6.out.free 4
          have KZ := hide (((((K6.out.set 0 (.string ⟨#[]⟩)).set 1 (.string ⟨#[]⟩)).set 2 (.bool false)).set 3 (.string ⟨#[]⟩)).set 4 (.string ⟨#[]⟩))
          have BZ := hide (low5 B6.out (Nat.le_refl _) (.string ⟨#[]⟩) (.string ⟨#[]⟩) (.bool false) (.string ⟨#[]⟩) (.string ⟨#[]⟩))
          have r0 := KZ.out.cell 0 rfl
          have r1 := KZ.out.cell 1 rfl
          have r2 := KZ.out.cell 2 rfl
          have r3 := KZ.out.cell 3 rfl
          have r4 := KZ.out.cell 4 rfl
          go_wp2_with fail
          refine bodyPost_ret (v := .tuple #[.agg #[.string ⟨#[]⟩, .string ⟨#[]⟩, .bool false, .string ⟨#[]⟩, .string ⟨#[]⟩], .bool false]) (by simp [results, go_sem, r0, r1, r2, r3, r4]) rfl ?_
          exact ⟨rfl, BZ.out⟩
        | some fr =>
          obtain ⟨f, r2⟩ := fr
          obtain ⟨lf, lr2⟩ := quoP_len q2
          rw [q2, show quoV (some (f, r2)) = .tuple #[.string (txt (unL f)), .string (txt r2), .bool true] from rfl] at HQ2
          have HP := hide (fun W => cutPreP_any r2 c3L W)
          by_cases g3 : c3L.isPrefixOf r2 = true
          · rw [if_pos g3, g3, show c3L.length = 16 from rfl] at HP
            have HB := hide (fun W => breaks_any (txt (r2.drop 16)) W (by show (r2.drop 16).length ≤ _; rw [List.length_drop]; omega))
            rw [show bL (txt (r2.drop 16)) = r2.drop 16 from rfl] at HB
            cases bk : brk (r2.drop 16) with
            | true =>
              rw [bk] at HB
              have ER : Hid (readL l = none) := by show _ = _; simp [readQ, cq, q1, z, q2, g3, bk]
              rw [ER.out]
              show Calls _ _ _ _ fun e w' => e = .returned (.tuple #[.agg #[.string ⟨#[]⟩, .string ⟨#[]⟩, .bool false, .string ⟨#[]⟩, .string ⟨#[]⟩], .bool false]) ∧ Below w.heap.size w w'
              clear ER
              clear cq q1 q2 z hT ln lr lh lv lf lr2 g3 bk
              generalize r2.drop 16 = kd at *
              go_enter Tryz.func53, Tryz.ntmps53
              go_wp2_with fail
              refine (HC.out _ BA.out).mono ?_
              rintro e w2 ⟨rfl, b2⟩
              have B2 := hide (chain BA.out b2)
              have K2 := hide (KA.out.below b2)
              clear b2 HC
              go_wp2_with fail
              refine (HQ.out _ B2.out).mono ?_
              rintro e w3 ⟨rfl, b3⟩
              have B3 := hide (chain B2.out b3)
              have K3 := hide (K2.out.below b3)
              clear b3 HQ B2 K2
              go_wp2_with fail
              refine (HV.out _).mono ?_
              rintro e w4 ⟨rfl, b4⟩
              have B4 := hide (chain B3.out b4)
              have K4 := hide (K3.out.below b4)
              clear b4
              have KE := hide (Bk.new w4 [.string (txt (unL n)), .string (txt v), .bool false, .string ⟨#[]⟩, .string ⟨#[]⟩] 76)
              have AE : Below w4.heap.size w4 (w4.alloc (.cells #[.string (txt (unL n)), .string (txt v), .bool false, .string ⟨#[]⟩, .string ⟨#[]⟩] 76)) := (Below.refl _ _).alloc (Nat.le_refl _) _
              have B5 := hide (chain B4.out AE)
              have K5 := hide (K4.out.below AE)
              have GE := hide B4.out.size
              have NE : Hid (w4.heap.size ≠ w.heap.size) := by show _ ≠ _; have := K4.out.lt; omega
              clear AE
              go_wp2_with fail
              refine (HQ2.out _ B5.out).mono ?_
              rintro e w6 ⟨rfl, b6⟩
              have B6 := hide (chain B5.out b6)
              have K6 := hide (K5.out.below b6)
              clear b6 HQ2 B5 K5
              go_wp2_with fail
              refine (HP.out _).mono ?_
              rintro e w7 ⟨rfl, hu⟩
              obtain rfl := hu.symm
              go_wp2_with fail
              refine (HB.out _).mono ?_
              rintro e w8 ⟨rfl, b8⟩
              have B8 := hide (chain B6.out b8)
              have K8 := hide (K6.out.below b8)
              clear b8 HB B6 K6
              have g0 := K8.out.cell 0 rfl
              have f0 := K8.out.free 0
              have g1 := K8.out.cell 1 rfl
              have f1 := K8.out.free 1
              have g2 := K8.out.cell 2 rfl
              have f2 := K8.out.free 2
              have g3 := K8.out.cell 3 rfl
              have f3 := K8.out.free 3
              have g4 := K8.out.cell 4 rfl
              have f4 := K8.out.free 4
              have KZ := hide (((((K8.out.set 0 (.string ⟨#[]⟩)).set 1 (.string ⟨#[]⟩)).set 2 (.bool false)).set 3 (.string ⟨#[]⟩)).set 4 (.string ⟨#[]⟩))
              have BZ := hide (low5 B8.out (Nat.le_refl _) (.string ⟨#[]⟩) (.string ⟨#[]⟩) (.bool false) (.string ⟨#[]⟩) (.string ⟨#[]⟩))
              have r0 := KZ.out.cell 0 rfl
              have r1 := KZ.out.cell 1 rfl
              have r2 := KZ.out.cell 2 rfl
              have r3 := KZ.out.cell 3 rfl
              have r4 := KZ.out.cell 4 rfl
              go_wp2_with fail
              refine bodyPost_ret (v := .tuple #[.agg #[.string ⟨#[]⟩, .string ⟨#[]⟩, .bool false, .string ⟨#[]⟩, .string ⟨#[]⟩], .bool false]) (by simp [results, go_sem, r0, r1, r2, r3, r4]) rfl ?_
              exact ⟨rfl, BZ.out⟩
            | false =>
              rw [bk] at HB
              have ER : Hid (readL l = some ⟨txt (unL n), txt v, true, txt (unL f), txt (r2.drop 16)⟩) := by show _ = _; simp [readQ, cq, q1, z, q2, g3, bk]
              rw [ER.out]
              have HK := hide (fun W => clone_any (txt (r2.drop 16)) W (by show (r2.drop 16).length ≤ _; rw [List.length_drop]; omega))
              clear ER cq q1 q2 z hT ln lr lh lv lf lr2 g3 bk
              generalize r2.drop 16 = kd at *
              show Calls _ _ _ _ fun e w' => e = .returned (.tuple #[.agg #[.string (txt (unL n)), .string (txt v), .bool true, .string (txt (unL f)), .string (txt kd)], .bool true]) ∧ Below w.heap.size w w'
              go_enter Tryz.func53, Tryz.ntmps53
              go_wp2_with fail
              refine (HC.out _ BA.out).mono ?_
              rintro e w2 ⟨rfl, b2⟩
              have B2 := hide (chain BA.out b2)
              have K2 := hide (KA.out.below b2)
              clear b2 HC
              go_wp2_with fail
              refine (HQ.out _ B2.out).mono ?_
              rintro e w3 ⟨rfl, b3⟩
              have B3 := hide (chain B2.out b3)
              have K3 := hide (K2.out.below b3)
              clear b3 HQ B2 K2
              go_wp2_with fail
              refine (HV.out _).mono ?_
              rintro e w4 ⟨rfl, b4⟩
              have B4 := hide (chain B3.out b4)
              have K4 := hide (K3.out.below b4)
              clear b4
              have KE := hide (Bk.new w4 [.string (txt (unL n)), .string (txt v), .bool false, .string ⟨#[]⟩, .string ⟨#[]⟩] 76)
              have AE : Below w4.heap.size w4 (w4.alloc (.cells #[.string (txt (unL n)), .string (txt v), .bool false, .string ⟨#[]⟩, .string ⟨#[]⟩] 76)) := (Below.refl _ _).alloc (Nat.le_refl _) _
              have B5 := hide (chain B4.out AE)
              have K5 := hide (K4.out.below AE)
              have GE := hide B4.out.size
              have NE : Hid (w4.heap.size ≠ w.heap.size) := by show _ ≠ _; have := K4.out.lt; omega
              clear AE
              have KF := hide KE.out
              clear KE
              go_wp2_with fail
              refine (HQ2.out _ B5.out).mono ?_
              rintro e w6 ⟨rfl, b6⟩
              have B6 := hide (chain B5.out b6)
              have K6 := hide (K5.out.below b6)
              have F6 := hide (KF.out.below b6)
              clear b6 HQ2 B5 K5 KF
              go_wp2_with fail
              refine (HP.out _).mono ?_
              rintro e w7 ⟨rfl, hu⟩
              obtain rfl := hu.symm
              go_wp2_with fail
              refine (HB.out _).mono ?_
              rintro e w8 ⟨rfl, b8⟩
              have B8 := hide (chain B6.out b8)
              have K8 := hide (K6.out.below b8)
              have F8 := hide (F6.out.below b8)
              clear b8 HB B6 K6 F6
              go_wp2_with fail
              refine (HK.out _).mono ?_
              rintro e w9 ⟨rfl, b9⟩
              have B9 := hide (chain B8.out b9)
              have K9 := hide (K8.out.below b9)
              have F9 := hide (F8.out.below b9)
              clear b9 HK B8 K8 F8
              have d2 := F9.out.cell 2 rfl
              have d3 := F9.out.cell 3 rfl
              have d4 := F9.out.cell 4 rfl
              have e2 := F9.out.free 2
              have e3 := F9.out.free 3
              have e4 := F9.out.free 4
              have FZ := hide (((F9.out.set 2 (.bool true)).set 3 (.string (txt (unL f)))).set 4 (.string (txt kd)))
              have KB := hide (((K9.out.other NE.out 2 (.bool true)).other NE.out 3 (.string (txt (unL f)))).other NE.out 4 (.string (txt kd)))
              have BB : Hid (Below w.heap.size w (((w9.setCell ⟨w4.heap.size, 2, none⟩ (.bool true)).setCell ⟨w4.heap.size, 3, none⟩ (.string (txt (unL f)))).setCell ⟨w4.heap.size, 4, none⟩ (.string (txt kd)))) := ((B9.out.setCell (p := ⟨w4.heap.size, 2, none⟩) GE.out _).setCell (p := ⟨w4.heap.size, 3, none⟩) GE.out _).setCell (p := ⟨w4.heap.size, 4, none⟩) GE.out _
              have y0 := FZ.out.cell 0 rfl
              have y1 := FZ.out.cell 1 rfl
              have y2 := FZ.out.cell 2 rfl
              have y3 := FZ.out.cell 3 rfl
              have y4 := FZ.out.cell 4 rfl
              have g0 := KB.out.cell 0 rfl
              have f0 := KB.out.free 0
              have g1 := KB.out.cell 1 rfl
              have f1 := KB.out.free 1
              have g2 := KB.out.cell 2 rfl
              have f2 := KB.out.free 2
              have g3 := KB.out.cell 3 rfl
              have f3 := KB.out.free 3
              have g4 := KB.out.cell 4 rfl
              have f4 := KB.out.free 4
              have KZ := hide (((((KB.out.set 0 (.string (txt (unL n)))).set 1 (.string (txt v))).set 2 (.bool true)).set 3 (.string (txt (unL f)))).set 4 (.string (txt kd)))
              have BZ := hide (low5 BB.out (Nat.le_refl _) (.string (txt (unL n))) (.string (txt v)) (.bool true) (.string (txt (unL f))) (.string (txt kd)))
              have r0 := KZ.out.cell 0 rfl
              have r1 := KZ.out.cell 1 rfl
              have r2 := KZ.out.cell 2 rfl
              have r3 := KZ.out.cell 3 rfl
              have r4 := KZ.out.cell 4 rfl
              go_wp2_with fail
              refine bodyPost_ret (v := .tuple #[.agg #[.string (txt (unL n)), .string (txt v), .bool true, .string (txt (unL f)), .string (txt kd)], .bool true]) (by simp [results, go_sem, r0, r1, r2, r3, r4]) rfl ?_
              exact ⟨rfl, BZ.out⟩
          · have HP2 := hide (fun W => HP.out W)
            rw [if_neg g3, show c3L.isPrefixOf r2 = false from Bool.eq_false_iff.2 g3] at HP2
            have ER : Hid (readL l = none) := by show _ = _; simp [readQ, cq, q1, z, q2, g3]
            rw [ER.out]
            show Calls _ _ _ _ fun e w' => e = .returned (.tuple #[.agg #[.string ⟨#[]⟩, .string ⟨#[]⟩, .bool false, .string ⟨#[]⟩, .string ⟨#[]⟩], .bool false]) ∧ Below w.heap.size w w'
            clear ER
            clear cq q1 q2 z hT ln lr lh lv lf lr2 g3 HP
            go_enter Tryz.func53, Tryz.ntmps53
            go_wp2_with fail
            refine (HC.out _ BA.out).mono ?_
            rintro e w2 ⟨rfl, b2⟩
            have B2 := hide (chain BA.out b2)
            have K2 := hide (KA.out.below b2)
            clear b2 HC
            go_wp2_with fail
            refine (HQ.out _ B2.out).mono ?_
            rintro e w3 ⟨rfl, b3⟩
            have B3 := hide (chain B2.out b3)
            have K3 := hide (K2.out.below b3)
            clear b3 HQ B2 K2
            go_wp2_with fail
            refine (HV.out _).mono ?_
            rintro e w4 ⟨rfl, b4⟩
            have B4 := hide (chain B3.out b4)
            have K4 := hide (K3.out.below b4)
            clear b4
            have KE := hide (Bk.new w4 [.string (txt (unL n)), .string (txt v), .bool false, .string ⟨#[]⟩, .string ⟨#[]⟩] 76)
            have AE : Below w4.heap.size w4 (w4.alloc (.cells #[.string (txt (unL n)), .string (txt v), .bool false, .string ⟨#[]⟩, .string ⟨#[]⟩] 76)) := (Below.refl _ _).alloc (Nat.le_refl _) _
            have B5 := hide (chain B4.out AE)
            have K5 := hide (K4.out.below AE)
            have GE := hide B4.out.size
            have NE : Hid (w4.heap.size ≠ w.heap.size) := by show _ ≠ _; have := K4.out.lt; omega
            clear AE
            go_wp2_with fail
            refine (HQ2.out _ B5.out).mono ?_
            rintro e w6 ⟨rfl, b6⟩
            have B6 := hide (chain B5.out b6)
            have K6 := hide (K5.out.below b6)
            clear b6 HQ2 B5 K5
            go_wp2_with fail
            refine (HP2.out _).mono ?_
            rintro e w7 ⟨rfl, hu⟩
            obtain rfl := hu.symm
            have g0 := K6.out.cell 0 rfl
            have f0 := K6.out.free 0
            have g1 := K6.out.cell 1 rfl
            have f1 := K6.out.free 1
            have g2 := K6.out.cell 2 rfl
            have f2 := K6.out.free 2
            have g3 := K6.out.cell 3 rfl
            have f3 := K6.out.free 3
            have g4 := K6.out.cell 4 rfl
            have f4 := K6.out.free 4
            have KZ := hide (((((K6.out.set 0 (.string ⟨#[]⟩)).set 1 (.string ⟨#[]⟩)).set 2 (.bool false)).set 3 (.string ⟨#[]⟩)).set 4 (.string ⟨#[]⟩))
            have BZ := hide (low5 B6.out (Nat.le_refl _) (.string ⟨#[]⟩) (.string ⟨#[]⟩) (.bool false) (.string ⟨#[]⟩) (.string ⟨#[]⟩))
            have r0 := KZ.out.cell 0 rfl
            have r1 := KZ.out.cell 1 rfl
            have r2 := KZ.out.cell 2 rfl
            have r3 := KZ.out.cell 3 rfl
            have r4 := KZ.out.cell 4 rfl
            go_wp2_with fail
            refine bodyPost_ret (v := .tuple #[.agg #[.string ⟨#[]⟩, .string ⟨#[]⟩, .bool false, .string ⟨#[]⟩, .string ⟨#[]⟩], .bool false]) (by simp [results, go_sem, r0, r1, r2, r3, r4]) rfl ?_
            exact ⟨rfl, BZ.out⟩
end Go.Proofs.YtnojgejcmaajmaaGreatDoor

namespace Go.Proofs.YtnojgejcmaajmaaGreatDoor
open Go.RowKit
set_option maxRecDepth 100000
theorem splC_small (t : List UInt8) (ht : t ≠ []) : ∀ (n : Nat) (s : List UInt8), (splC t n s).length ≤ n + 1 ∧ ∀ p ∈ splC t n s, p.length ≤ s.length
  | 0, s => ⟨by show [s].length ≤ _; simp, fun p hp => by
      have hp : p ∈ [s] := hp
      rw [List.mem_singleton.1 hp]; exact Nat.le_refl _⟩
  | n + 1, s => by
    unfold splC
    cases c : cutL t s with
    | none => exact ⟨by simp, fun p hp => by rw [List.mem_singleton.1 hp]; exact Nat.le_refl _⟩
    | some pr =>
      obtain ⟨q, r⟩ := pr
      have ih := splC_small t ht n r
      have e := congrArg List.length (cut_some ht c).1
      simp only [List.length_append] at e
      refine ⟨by have := ih.1; simp only [List.length_cons]; omega, fun p hp => ?_⟩
      rcases List.mem_cons.1 hp with rfl | hp
      · omega
      · have := ih.2 p hp; omega
def cutY (b l : List UInt8) : List UInt8 := (l.drop (b.length + 4)).take ((l.drop (b.length + 4)).length - (b.length + 8))
def pcsP (b y : List UInt8) : List (List UInt8) := splC (sepL b) y.length y
theorem suf_is {t x : List UInt8} (h : t.isSuffixOf x = true) : x = x.take (x.length - t.length) ++ t := by
  rw [List.isSuffixOf_iff_suffix] at h
  obtain ⟨z, rfl⟩ := h
  rw [List.length_append, Nat.add_sub_cancel, List.take_left' rfl]
theorem btwE_len (b : List UInt8) : (btwL b ++ endL).length = b.length + 8 := by
  unfold btwL endL; simp
theorem dec_all {b l : List UInt8} (hb : fitL b = true) (h1 : ¬ l = 45 :: 45 :: (b ++ endL)) (h2 : (fstL b).isPrefixOf l = true) (h3 : (btwL b ++ endL).isSuffixOf (l.drop (b.length + 4)) = true) :
    decP l b = allP b (pcsP b (cutY b l)) := by
  unfold decP
  rw [if_pos hb, if_neg h1, if_pos h2]
  have e := suf_is h3
  rw [btwE_len] at e
  have y : (l.drop (b.length + 4)).take ((l.drop (b.length + 4)).length - (b.length + 8)) = cutY b l := rfl
  rw [y] at e
  have yl : (cutY b l).length ≤ (l.drop (b.length + 4)).length := by
    have := congrArg List.length e
    rw [List.length_append] at this
    omega
  rw [decF_more b (n := l.length) (m := (l.drop (b.length + 4)).length + 1) (by rw [List.length_drop]; omega) (Nat.le_succ _)]
  have := decF_split hb (l.drop (b.length + 4)).length (cutY b l) yl
  rw [← e] at this
  rw [this]
  unfold pcsP
  rw [splC_more (sepL b) (sep_ne b) yl (Nat.le_refl _)]
theorem dec_nosuf {b l : List UInt8} (h1 : ¬ l = 45 :: 45 :: (b ++ endL)) (h3 : (btwL b ++ endL).isSuffixOf (l.drop (b.length + 4)) = false) : decP l b = none := by
  unfold decP
  by_cases hb : fitL b = true
  · rw [if_pos hb, if_neg h1]
    by_cases h2 : (fstL b).isPrefixOf l = true
    · rw [if_pos h2]
      cases c : decF b l.length (l.drop (b.length + 4)) with
      | none => rfl
      | some m =>
        obtain ⟨y, hy⟩ := decF_ends _ _ _ c
        have : (btwL b ++ endL).isSuffixOf (l.drop (b.length + 4)) = true := by
          rw [List.isSuffixOf_iff_suffix]; exact ⟨y, hy.symm⟩
        rw [h3] at this; cases this
    · rw [if_neg h2]
  · rw [if_neg hb]
theorem dec_nopre {b l : List UInt8} (h1 : ¬ l = 45 :: 45 :: (b ++ endL)) (h2 : (fstL b).isPrefixOf l = false) : decP l b = none := by
  unfold decP
  by_cases hb : fitL b = true
  · rw [if_pos hb, if_neg h1, if_neg (by rw [h2]; decide)]
  · rw [if_neg hb]
theorem hdE (b : ByteArray) : (⟨#[45, 45]⟩ : ByteArray) ++ b ++ (⟨#[45, 45]⟩ : ByteArray) ++ (⟨#[13, 10]⟩ : ByteArray) = txt (45 :: 45 :: (bL b ++ endL)) := by
  rw [← txt_bL ((⟨#[45, 45]⟩ : ByteArray) ++ b ++ (⟨#[45, 45]⟩ : ByteArray) ++ (⟨#[13, 10]⟩ : ByteArray)), bL_app, bL_app, bL_app, List.append_assoc, List.append_assoc]; rfl
theorem hdF (b : ByteArray) : (⟨#[45, 45]⟩ : ByteArray) ++ b ++ (⟨#[13, 10]⟩ : ByteArray) = txt (fstL (bL b)) := by
  rw [← txt_bL ((⟨#[45, 45]⟩ : ByteArray) ++ b ++ (⟨#[13, 10]⟩ : ByteArray)), bL_app, bL_app, List.append_assoc]; rfl
theorem hdS (b : ByteArray) : (⟨#[13, 10, 45, 45]⟩ : ByteArray) ++ b ++ (⟨#[45, 45]⟩ : ByteArray) ++ (⟨#[13, 10]⟩ : ByteArray) = txt (btwL (bL b) ++ endL) := by
  rw [← txt_bL ((⟨#[13, 10, 45, 45]⟩ : ByteArray) ++ b ++ (⟨#[45, 45]⟩ : ByteArray) ++ (⟨#[13, 10]⟩ : ByteArray)), bL_app, bL_app, bL_app, List.append_assoc]; rfl
theorem hdP (b : ByteArray) : (⟨#[13, 10, 45, 45]⟩ : ByteArray) ++ b ++ (⟨#[13, 10]⟩ : ByteArray) = txt (sepL (bL b)) := by
  rw [← txt_bL ((⟨#[13, 10, 45, 45]⟩ : ByteArray) ++ b ++ (⟨#[13, 10]⟩ : ByteArray)), bL_app, bL_app, sep_btw]; rfl
theorem hdB (b : ByteArray) : (⟨#[13, 10, 45, 45]⟩ : ByteArray) ++ b = txt (btwL (bL b)) := by
  rw [← txt_bL ((⟨#[13, 10, 45, 45]⟩ : ByteArray) ++ b), bL_app]; rfl
set_option maxHeartbeats 8000000 in
theorem broken_any (b : ByteArray) (B : Nat) (p : List UInt8) (W : World) (hc : W.cell? ⟨B, 0, none⟩ = some (.string b)) (hp : p.length ≤ 1073741824) (hb : b.size ≤ 1000) (hT : PtTabs W) :
    Calls Tryz.prog 50 #[.string (txt p), .pointer (some ⟨B, 0, none⟩)] W fun e w' => e = .returned (.bool (cutL (btwL (bL b)) p).isSome) ∧ Below W.heap.size W w' := by
  have D1 : ((⟨#[13, 10, 45, 45]⟩ : ByteArray) ++ b).size ≤ 1004 := app_le (show (⟨#[13, 10, 45, 45]⟩ : ByteArray).size ≤ 4 by decide) hb
  have HD := hide (hdB b)
  have HC := hide (fun W (h : SomeMax W) => contains_any (txt p) (txt (btwL (bL b))) W hp (by show 0 < (btwL (bL b)).length; unfold btwL; simp) h)
  have EC : Hid (bL (txt p) = p) := rfl
  have EB : Hid (bL (txt (btwL (bL b))) = btwL (bL b)) := rfl
  rw [EC.out, EB.out] at HC
  have MX := hide hT.mx
  clear EC EB hT
  generalize (cutL (btwL (bL b)) p).isSome = R at *
  generalize txt (btwL (bL b)) = tb at *
  go_enter Tryz.func50, Tryz.ntmps50
  go_wp2_with fail
  rw [HD.out]
  refine (HC.out _ MX.out).mono ?_
  rintro e w1 ⟨rfl, hu⟩
  obtain rfl := hu.symm
  go_wp2_with fail
  go_ret
  exact ⟨rfl, Below.refl _ _⟩
theorem allP_cons {b p : List UInt8} {e : En} {l : List (List UInt8)} (h : goodP b p = some e) : allP b (p :: l) = (allP b l).map (e :: ·) := by
  show (match goodP b p with | none => none | some e => (allP b l).map (e :: ·)) = _
  rw [h]
theorem good_is (b p : List UInt8) : goodP b p = if (cutL (btwL b) p).isSome then none else readL p := rfl
theorem map_app (L : List En) (e : En) (o : Option (List En)) : (o.map (e :: ·)).map (L ++ ·) = o.map ((L ++ [e]) ++ ·) := by
  cases o with
  | none => rfl
  | some m => simp
set_option maxHeartbeats 8000000 in
theorem ptDecode_any (s b : ByteArray) (w : World) (hs : s.size ≤ 16777216) (hb : b.size ≤ 1000) (hT : PtTabs w) :
    Calls Tryz.prog 14 #[.string s, .string b] w fun e w' => ∃ v', e = .returned (.tuple #[v', .int .i64 (decI (decP (bL s) (bL b)))]) ∧ FilesV w' v' (decR (decP (bL s) (bL b))) ∧ Below w.heap.size w w' := by
  obtain ⟨l, rfl⟩ : ∃ l, s = txt l := ⟨bL s, (txt_is s).symm⟩
  have hs : l.length ≤ 16777216 := hs
  show Calls _ _ _ _ fun e w' => ∃ v', e = .returned (.tuple #[v', .int .i64 (decI (decP l (bL b)))]) ∧ FilesV w' v' (decR (decP l (bL b))) ∧ Below w.heap.size w w'
  have B0 : Hid (Below w.heap.size w (w.alloc (.cells #[.string b] 9))) := (Below.refl _ w).alloc (Nat.le_refl _) _
  have K0 := hide (Bk.new w [.string b] 9)
  have HF := hide (fun W => ptFitW_any b W (by omega))
  have x0 := K0.out.cell 0 rfl
  cases ft : fitL (bL b) with
  | false =>
    rw [ft] at HF
    have ED : decP l (bL b) = none := decP_no ft
    have ER : Hid (decR (decP l (bL b)) = []) := by show _ = _; rw [ED]; rfl
    have EI : Hid (decI (decP l (bL b)) = 1) := by show _ = _; rw [ED]; rfl
    clear ED
    clear ft hT hs hb
    go_enter Tryz.func14, Tryz.ntmps14
    go_wp2_with fail
    refine (HF.out _).mono ?_
    rintro e w1 ⟨rfl, hu⟩
    obtain rfl := hu.symm
    go_wp2_with fail
    go_ret2
    exact ⟨_, ret_dec EI.out.symm, by rw [ER.out]; exact ⟨none, 0, rfl, .inl rfl⟩, B0.out⟩
  | true =>
    rw [ft] at HF
    have D1 : ((⟨#[45, 45]⟩ : ByteArray) ++ b).size ≤ 1002 := app_le (show (⟨#[45, 45]⟩ : ByteArray).size ≤ 2 by decide) hb
    have D2 : ((⟨#[45, 45]⟩ : ByteArray) ++ b ++ (⟨#[13, 10]⟩ : ByteArray)).size ≤ 1004 := app_le D1 (show (⟨#[13, 10]⟩ : ByteArray).size ≤ 2 by decide)
    have D3 : ((⟨#[45, 45]⟩ : ByteArray) ++ b ++ (⟨#[45, 45]⟩ : ByteArray)).size ≤ 1004 := app_le D1 (show (⟨#[45, 45]⟩ : ByteArray).size ≤ 2 by decide)
    have D4 : ((⟨#[45, 45]⟩ : ByteArray) ++ b ++ (⟨#[45, 45]⟩ : ByteArray) ++ (⟨#[13, 10]⟩ : ByteArray)).size ≤ 1006 := app_le D3 (show (⟨#[13, 10]⟩ : ByteArray).size ≤ 2 by decide)
    have U1 : ((⟨#[13, 10, 45, 45]⟩ : ByteArray) ++ b).size ≤ 1004 := app_le (show (⟨#[13, 10, 45, 45]⟩ : ByteArray).size ≤ 4 by decide) hb
    have U2 : ((⟨#[13, 10, 45, 45]⟩ : ByteArray) ++ b ++ (⟨#[45, 45]⟩ : ByteArray)).size ≤ 1006 := app_le U1 (show (⟨#[45, 45]⟩ : ByteArray).size ≤ 2 by decide)
    have U3 : ((⟨#[13, 10, 45, 45]⟩ : ByteArray) ++ b ++ (⟨#[45, 45]⟩ : ByteArray) ++ (⟨#[13, 10]⟩ : ByteArray)).size ≤ 1008 := app_le U2 (show (⟨#[13, 10]⟩ : ByteArray).size ≤ 2 by decide)
    have U4 : ((⟨#[13, 10, 45, 45]⟩ : ByteArray) ++ b ++ (⟨#[13, 10]⟩ : ByteArray)).size ≤ 1006 := app_le U1 (show (⟨#[13, 10]⟩ : ByteArray).size ≤ 2 by decide)
    have EQ : ((txt l).toList == ((⟨#[45, 45]⟩ : ByteArray) ++ b ++ (⟨#[45, 45]⟩ : ByteArray) ++ (⟨#[13, 10]⟩ : ByteArray)).toList) = decide (l = 45 :: 45 :: (bL b ++ endL)) := by rw [eq_bL, hdE]; rfl
    by_cases g1 : l = 45 :: 45 :: (bL b ++ endL)
    · rw [decide_eq_true g1] at EQ
      have ED : decP l (bL b) = some [] := decP_end ft g1
      have ER : Hid (decR (decP l (bL b)) = []) := by show _ = _; rw [ED]; rfl
      have EI : Hid (decI (decP l (bL b)) = 0) := by show _ = _; rw [ED]; rfl
      clear ED ft hT hs g1
      go_enter Tryz.func14, Tryz.ntmps14
      go_wp2_with fail
      refine (HF.out _).mono ?_
      rintro e w1 ⟨rfl, hu⟩
      obtain rfl := hu.symm
      go_wp2_with fail
      go_ret2
      exact ⟨_, ret_dec EI.out.symm, by rw [ER.out]; exact ⟨none, 0, rfl, .inl rfl⟩, B0.out⟩
    · rw [decide_eq_false g1] at EQ
      have HD1 := hide (hdF b)
      have HD2 := hide (hdS b)
      have HD3 := hide (hdP b)
      have HP := hide (fun W => cutPreP_any l (fstL (bL b)) W)
      have FL : (fstL (bL b)).length = (bL b).length + 4 := by unfold fstL; simp
      cases g2 : (fstL (bL b)).isPrefixOf l with
      | false =>
        rw [g2, if_neg (by decide)] at HP
        have HS := hide (fun W => cutSufP_any l (btwL (bL b) ++ endL) W (by omega))
        have ED : decP l (bL b) = none := dec_nopre g1 g2
        have ER : Hid (decR (decP l (bL b)) = []) := by show _ = _; rw [ED]; rfl
        have EI : Hid (decI (decP l (bL b)) = 1) := by show _ = _; rw [ED]; rfl
        clear ED
        clear ft hT hs g1 g2 FL HD3
        generalize (btwL (bL b) ++ endL).isSuffixOf l = sb at *
        generalize txt (fstL (bL b)) = h1 at *
        generalize txt (btwL (bL b) ++ endL) = h2 at *
        go_enter Tryz.func14, Tryz.ntmps14
        go_wp2_with fail
        refine (HF.out _).mono ?_
        rintro e w1 ⟨rfl, hu⟩
        obtain rfl := hu.symm
        go_wp2_with fail
        rw [HD1.out]
        refine (HP.out _).mono ?_
        rintro e w2 ⟨rfl, hu⟩
        obtain rfl := hu.symm
        go_wp2_with fail
        rw [HD2.out]
        refine (HS.out _).mono ?_
        rintro e w3 ⟨rfl, hu⟩
        obtain rfl := hu.symm
        go_wp2_with fail
        all_goals
          go_ret2
          exact ⟨_, ret_dec EI.out.symm, by rw [ER.out]; exact ⟨none, 0, rfl, .inl rfl⟩, B0.out⟩
      | true =>
        rw [g2, if_pos rfl, FL] at HP
        have xl : (l.drop ((bL b).length + 4)).length ≤ 16777216 := by rw [List.length_drop]; omega
        have HS := hide (fun W => cutSufP_any (l.drop ((bL b).length + 4)) (btwL (bL b) ++ endL) W (by omega))
        cases g3 : (btwL (bL b) ++ endL).isSuffixOf (l.drop ((bL b).length + 4)) with
        | false =>
          rw [g3, if_neg (by decide)] at HS
          have ED : decP l (bL b) = none := dec_nosuf g1 g3
          have ER : Hid (decR (decP l (bL b)) = []) := by show _ = _; rw [ED]; rfl
          have EI : Hid (decI (decP l (bL b)) = 1) := by show _ = _; rw [ED]; rfl
          clear ED
          clear ft hT hs g1 g2 g3 FL HD3 xl
          generalize l.drop ((bL b).length + 4) = x at *
          generalize txt (fstL (bL b)) = h1 at *
          generalize txt (btwL (bL b) ++ endL) = h2 at *
          go_enter Tryz.func14, Tryz.ntmps14
          go_wp2_with fail
          refine (HF.out _).mono ?_
          rintro e w1 ⟨rfl, hu⟩
          obtain rfl := hu.symm
          go_wp2_with fail
          rw [HD1.out]
          refine (HP.out _).mono ?_
          rintro e w2 ⟨rfl, hu⟩
          obtain rfl := hu.symm
          go_wp2_with fail
          rw [HD2.out]
          refine (HS.out _).mono ?_
          rintro e w3 ⟨rfl, hu⟩
          obtain rfl := hu.symm
          go_wp2_with fail
          go_ret2
          exact ⟨_, ret_dec EI.out.symm, by rw [ER.out]; exact ⟨none, 0, rfl, .inl rfl⟩, B0.out⟩
        | true =>
          rw [g3, if_pos rfl, btwE_len] at HS
          have EY : (l.drop ((bL b).length + 4)).take ((l.drop ((bL b).length + 4)).length - ((bL b).length + 8)) = cutY (bL b) l := rfl
          rw [EY] at HS
          have yl : (cutY (bL b) l).length ≤ 16777216 := by rw [← EY, List.length_take]; omega
          have ED : Hid (decP l (bL b) = allP (bL b) (pcsP (bL b) (cutY (bL b) l))) := dec_all ft g1 g2 g3
          have HT := hide hT
          have HSp := hide (fun W (h : SomeMax W) => splitP_any (txt (cutY (bL b) l)) (txt (sepL (bL b))) W (by show (cutY (bL b) l).length ≤ _; omega) (by show 0 < (sepL (bL b)).length; unfold sepL; simp) h)
          have PE : Hid (splC (bL (txt (sepL (bL b)))) (txt (cutY (bL b) l)).size (bL (txt (cutY (bL b) l))) = pcsP (bL b) (cutY (bL b) l)) := rfl
          rw [PE.out] at HSp
          have SM := splC_small (sepL (bL b)) (sep_ne _) (cutY (bL b) l).length (cutY (bL b) l)
          have SM : (pcsP (bL b) (cutY (bL b) l)).length ≤ 16777217 ∧ ∀ p ∈ pcsP (bL b) (cutY (bL b) l), p.length ≤ 16777216 := ⟨by have := SM.1; show (splC _ _ _).length ≤ _; omega, fun p hp => by have := SM.2 p hp; omega⟩
          obtain ⟨sm1, sm2⟩ := SM
          have SM2 := hide sm2
          clear ft hT hs g1 g2 g3 FL xl EY PE sm2
          rw [ED.out]
          clear ED
          generalize l.drop ((bL b).length + 4) = x at *
          generalize pcsP (bL b) (cutY (bL b) l) = ps at *
          generalize cutY (bL b) l = y at *
          generalize txt (fstL (bL b)) = h1 at *
          generalize txt (btwL (bL b) ++ endL) = h2 at *
          generalize txt (sepL (bL b)) = h3 at *
          go_enter Tryz.func14, Tryz.ntmps14
          go_wp2_with fail
          refine (HF.out _).mono ?_
          rintro e w1 ⟨rfl, hu⟩
          obtain rfl := hu.symm
          go_wp2_with fail
          rw [HD1.out]
          refine (HP.out _).mono ?_
          rintro e w2 ⟨rfl, hu⟩
          obtain rfl := hu.symm
          go_wp2_with fail
          rw [HD2.out]
          refine (HS.out _).mono ?_
          rintro e w3 ⟨rfl, hu⟩
          obtain rfl := hu.symm
          go_wp2_with fail
          rw [HD3.out]
          refine (HSp.out _ (HT.out.below B0.out).mx).mono ?_
          rintro e w4 ⟨g, rfl, hg, pc, b4⟩
          have B4 := hide (chain B0.out b4)
          have PC := hide pc
          have KB := hide (K0.out.below b4)
          clear pc b4 HSp HS HP HD1 HD2 HD3 HF hg x0 EQ D1 D2 D3 D4 U1 U2 U3 U4 B0 K0
          go_wp2_with fail
          go_loopw [9, 53] (fun ov iv wr => ∃ (k : Nat) (L : List En) (q : Option Addr) (cp : Nat), k ≤ ps.length ∧ iv = .int .i64 k ∧ ov = .slice q L.length cp ∧ Hid (L.length = k) ∧ Hid (allP (bL b) ps = (allP (bL b) (ps.drop k)).map (L ++ ·)) ∧ Hid (OwnR w4.heap.size wr (.slice q L.length cp) L) ∧ Hid (Below w4.heap.size w4 wr)) (fun _ iv _ => ps.length - (intOf iv).toNat)
          case atStart => exact ⟨0, [], none, 0, Nat.zero_le _, rfl, rfl, rfl, by show _ = _; rw [List.drop_zero]; cases allP (bL b) ps <;> rfl, OwnR.nil _ _, Below.refl _ _⟩
          case round =>
            rename World => wr
            obtain ⟨k, L, q, cp, hk, rfl, rfl, LK, AP, OW, BW⟩ := hrel
            by_cases g : k < ps.length
            · have k1 : (k : Int) < (ps.length : Int) := by omega
              have k0 : (0 : Int) ≤ (k : Int) := by omega
              have c0 := PC.out.below BW.out k g
              have zl := SM2.out _ (List.getElem_mem g)
              have AD := List.drop_eq_getElem_cons g
              have AP2 := AP.out
              rw [AD] at AP2
              have HR := hide (read_any ps[k] wr (by omega) (HT.out.below (chain B4.out BW.out)))
              have HBr := hide (fun W (hW : Below wr.heap.size wr W) => broken_any b w.heap.size ps[k] W ((KB.out.below (chain BW.out hW)).cell 0 rfl) (by omega) hb (HT.out.below (chain (chain B4.out BW.out) hW)))
              have GI := good_is (bL b) ps[k]
              clear AP AD PC KB HT SM2 zl
              cases rq : readL ps[k] with
              | none =>
                have GN : goodP (bL b) ps[k] = none := by rw [GI, rq]; split <;> rfl
                have AN : allP (bL b) ps = none := by rw [AP2, allP_not GN]; rfl
                have ER : Hid (decR (allP (bL b) ps) = []) := by show _ = _; rw [AN]; rfl
                have EI : Hid (decI (allP (bL b) ps) = 1) := by show _ = _; rw [AN]; rfl
                rw [rq, show rdV none = .tuple #[.agg #[.string ⟨#[]⟩, .string ⟨#[]⟩, .bool false, .string ⟨#[]⟩, .string ⟨#[]⟩], .bool false] from rfl] at HR
                clear GN AN GI AP2 rq HBr
                generalize ps[k] = pk at *
                go_wp2_with fail
                refine HR.out.mono ?_
                rintro e w5 ⟨rfl, b5⟩
                have B5 := hide (chain (chain B4.out BW.out) b5)
                have B6 : Hid (Below w.heap.size w (w5.alloc (.cells #[.string ⟨#[]⟩, .string ⟨#[]⟩, .bool false, .string ⟨#[]⟩, .string ⟨#[]⟩] 76))) := B5.out.alloc B5.out.size _
                clear b5 HR
                go_wp2_with fail
                go_ret2
                exact ⟨_, ret_dec EI.out.symm, by rw [ER.out]; exact ⟨none, 0, rfl, .inl rfl⟩, B6.out⟩
              | some en =>
                rw [rq, show rdV (some en) = .tuple #[.agg #[.string en.name, .string en.val, .bool en.file, .string en.fname, .string en.typ], .bool true] from rfl] at HR
                have KE := fun (W : World) => hide (Bk.new W [.string en.name, .string en.val, .bool en.file, .string en.fname, .string en.typ] 76)
                cases bk : (cutL (btwL (bL b)) ps[k]).isSome with
                | true =>
                  have GN : goodP (bL b) ps[k] = none := by rw [GI, bk]; rfl
                  have AN : allP (bL b) ps = none := by rw [AP2, allP_not GN]; rfl
                  have ER : Hid (decR (allP (bL b) ps) = []) := by show _ = _; rw [AN]; rfl
                  have EI : Hid (decI (allP (bL b) ps) = 1) := by show _ = _; rw [AN]; rfl
                  rw [bk] at HBr
                  clear GN AN GI AP2 rq bk KE
                  generalize ps[k] = pk at *
                  generalize en.name = m0 at *
                  generalize en.val = m1 at *
                  generalize en.file = m2 at *
                  generalize en.fname = m3 at *
                  generalize en.typ = m4 at *
                  go_wp2_with fail
                  refine HR.out.mono ?_
                  rintro e w5 ⟨rfl, b5⟩
                  have AL : Below w5.heap.size w5 (w5.alloc (.cells #[.string m0, .string m1, .bool m2, .string m3, .string m4] 76)) := (Below.refl _ _).alloc (Nat.le_refl _) _
                  have B6 := hide (chain b5 AL)
                  clear b5 HR AL
                  go_wp2_with fail
                  refine (HBr.out _ B6.out).mono ?_
                  rintro e w7 ⟨rfl, b7⟩
                  have B7 := hide (chain (chain B4.out BW.out) (chain B6.out b7))
                  clear b7
                  go_wp2_with fail
                  go_ret2
                  exact ⟨_, ret_dec EI.out.symm, by rw [ER.out]; exact ⟨none, 0, rfl, .inl rfl⟩, B7.out⟩
                | false =>
                  have GN : goodP (bL b) ps[k] = some en := by rw [GI, bk, rq]; rfl
                  have AN : Hid (allP (bL b) ps = (allP (bL b) (ps.drop (k + 1))).map ((L ++ [en]) ++ ·)) := by
                    show _ = _
                    rw [AP2, allP_cons GN, map_app]
                  rw [bk] at HBr
                  clear GN GI AP2 rq bk KE
                  generalize ps[k] = pk at *
                  have lk := LK.out
                  have EN : Hid (en = ⟨en.name, en.val, en.file, en.fname, en.typ⟩) := rfl
                  generalize en.name = m0 at *
                  generalize en.val = m1 at *
                  generalize en.file = m2 at *
                  generalize en.fname = m3 at *
                  generalize en.typ = m4 at *
                  go_wp2_with fail
                  refine HR.out.mono ?_
                  rintro e w5 ⟨rfl, b5⟩
                  have AL : Below w5.heap.size w5 (w5.alloc (.cells #[.string m0, .string m1, .bool m2, .string m3, .string m4] 76)) := (Below.refl _ _).alloc (Nat.le_refl _) _
                  have B6 := hide (chain b5 AL)
                  have K6 := hide (Bk.new w5 [.string m0, .string m1, .bool m2, .string m3, .string m4] 76)
                  clear b5 HR AL lk
                  go_wp2_with fail
                  refine (HBr.out _ B6.out).mono ?_
                  rintro e w7 ⟨rfl, b7⟩
                  have B7 := hide (chain BW.out (chain B6.out b7))
                  have O7 := hide (OW.out.below (chain B6.out b7))
                  have K7 := hide (K6.out.below b7)
                  have z0 := K7.out.cell 0 rfl
                  have z1 := K7.out.cell 1 rfl
                  have z2 := K7.out.cell 2 rfl
                  have z3 := K7.out.cell 3 rfl
                  have z4 := K7.out.cell 4 rfl
                  clear b7 HBr B6 K6 BW OW
                  have F1 := hide (files_one w7 ⟨m0, m1, m2, m3, m4⟩)
                  have AL : Below w7.heap.size w7 (w7.alloc (.cells #[.string m0, .string m1, .bool m2, .string m3, .string m4] 76)) := (Below.refl _ _).alloc (Nat.le_refl _) _
                  have O8 := hide (O7.out.below AL)
                  have B8 := hide (chain B7.out AL)
                  have SZ8 := hide B8.out.size
                  clear AL O7 B7
                  have l72 : (L.length + 1) * 72 ≤ 140737488355328 := by have := LK.out; omega
                  go_wp2_with (at_builtin; refine wpList_append_en rfl _ _ rfl w4.heap.size _ L rfl O8.out _ [⟨m0, m1, m2, m3, m4⟩] rfl F1.out l72 SZ8.out ?_; intro q8 c8 w8 o8 b8)
                  have O9 : Hid (OwnR w4.heap.size w8 (.slice q8 (L ++ [en]).length c8) (L ++ [en])) := by
                    show OwnR _ _ _ _
                    rw [EN.out, List.length_append]
                    exact o8
                  have B9 := hide (B8.out.trans b8)
                  have LN : Hid (L.length + 1 = (L ++ [en]).length) := by show _ = _; simp
                  have LK2 : Hid ((L ++ [en]).length = k + 1) := by show _ = _; rw [← LN.out, LK.out]
                  clear o8 b8 F1 O8 B8 SZ8 EN LK
                  go_roundw
                  case rel => exact ⟨k + 1, L ++ [en], q8, c8, by omega, by go_num, by rw [← LN.out], LK2, AN, O9, B9⟩
                  case measure => simp [intOf]; omega
            · obtain rfl : k = ps.length := by omega
              have AN : allP (bL b) ps = some L := by
                rw [AP.out, List.drop_length]
                show some (L ++ []) = _
                rw [List.append_nil]
              have ER : Hid (decR (allP (bL b) ps) = L) := by show _ = _; rw [AN]; rfl
              have EI : Hid (decI (allP (bL b) ps) = 0) := by show _ = _; rw [AN]; rfl
              clear AN AP PC KB HT SM2
              go_wp2_with fail
              go_ret2
              exact ⟨_, ret_dec EI.out.symm, by rw [ER.out]; exact OW.out.files, chain B4.out BW.out⟩
end Go.Proofs.YtnojgejcmaajmaaGreatDoor

namespace Go.Proofs.YtnojgejcmaajmaaGreatDoor
open Go.RowKit
theorem sbDecU_any (s : ByteArray) (w : World) (hs : s.size ≤ 16777216) (hT : SbTabs w) :
    Calls Tryz.prog 12 #[.string s] w fun e w' => ∃ v', e = .returned v' ∧ FilesV w' v' (decU s.data.toList) ∧ Below w.heap.size w w' := urDecode_any s w hs hT.2.1
theorem sbDecP_any (s b : ByteArray) (w : World) (hs : s.size ≤ 16777216) (hb : b.size ≤ 1000) (hT : SbTabs w) :
    Calls Tryz.prog 14 #[.string s, .string b] w fun e w' => ∃ v', e = .returned (.tuple #[v', .int .i64 (decI (decP (bL s) (bL b)))]) ∧ FilesV w' v' (decR (decP (bL s) (bL b))) ∧ Below w.heap.size w w' := ptDecode_any s b w hs hb hT.2.2

end Go.Proofs.YtnojgejcmaajmaaGreatDoor
