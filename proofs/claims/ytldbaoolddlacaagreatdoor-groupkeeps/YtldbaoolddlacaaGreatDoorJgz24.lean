/- The questions of kinds, of the document. The document's Attr, SameFiles, Same of layer 14. The document's kind and Form of layer 16. The program's isFormed of layer 10. The program's areReached, Right, isThere of layer 10. The program's isThere, Order, upwards of layer 10. -/
import Derived.Test.YtldbaoolddlacaaGreatDoorJgz14
import Derived.Test.YtldbaoolddlacaaGreatDoorJgz22
import Derived.Test.YtldbaoolddlacaaGreatDoorJgz26
import Derived.Laws.MakeOwn

namespace Go.Proofs.YtldbaoolddlacaaGreatDoor
open Go.RowKit
set_option maxHeartbeats 4000000 in
set_option maxRecDepth 100000 in
theorem refIs_1 (k : Int) (w : World) :
    Calls Tryz.prog 81 #[.int .i64 1, .int .i64 k] w fun e w' => e = .returned (.bool (listB k)) ∧ w' = w := by
  rcases (show (k ≤ 0) ∨ (1 ≤ k ∧ k ≤ 19) ∨ (k = 20) ∨ (21 ≤ k ∧ k ≤ 22) ∨ (k = 23) ∨ (k = 24) ∨ (k = 25) ∨ (k = 26) ∨ (k = 27) ∨ (k = 28) ∨ (k = 29) ∨ (30 ≤ k) by omega) with q | q | q | q | q | q | q | q | q | q | q | q
  all_goals
    first | (have e1 : ¬ (1 ≤ k) := by omega) | (have e1 : 1 ≤ k := by omega)
    first | (have d1 : decide (1 ≤ k) = false := decide_eq_false e1) | (have d1 : decide (1 ≤ k) = true := decide_eq_true e1)
    first | (have e2 : k ≤ 22 := by omega) | (have e2 : ¬ (k ≤ 22) := by omega)
    first | (have d2 : decide (k ≤ 22) = true := decide_eq_true e2) | (have d2 : decide (k ≤ 22) = false := decide_eq_false e2)
    first | (have e3 : (k == 23) = false := by rw [beq_eq_false_iff_ne]; omega) | (have e3 : (k == 23) = true := by rw [beq_iff_eq]; omega)
    first | (have n3 : ¬ k = 23 := by omega) | (have n3 : (k != 23) = false := by unfold bne; rw [e3]; rfl)
    first | (have e4 : (k == 24) = false := by rw [beq_eq_false_iff_ne]; omega) | (have e4 : (k == 24) = true := by rw [beq_iff_eq]; omega)
    first | (have n4 : ¬ k = 24 := by omega) | (have n4 : (k != 24) = false := by unfold bne; rw [e4]; rfl)
    first | (have e5 : (k == 25) = false := by rw [beq_eq_false_iff_ne]; omega) | (have e5 : (k == 25) = true := by rw [beq_iff_eq]; omega)
    first | (have n5 : ¬ k = 25 := by omega) | (have n5 : (k != 25) = false := by unfold bne; rw [e5]; rfl)
    first | (have e6 : (k == 26) = false := by rw [beq_eq_false_iff_ne]; omega) | (have e6 : (k == 26) = true := by rw [beq_iff_eq]; omega)
    first | (have n6 : ¬ k = 26 := by omega) | (have n6 : (k != 26) = false := by unfold bne; rw [e6]; rfl)
    first | (have e7 : (k == 27) = false := by rw [beq_eq_false_iff_ne]; omega) | (have e7 : (k == 27) = true := by rw [beq_iff_eq]; omega)
    first | (have n7 : ¬ k = 27 := by omega) | (have n7 : (k != 27) = false := by unfold bne; rw [e7]; rfl)
    first | (have e8 : (k == 20) = false := by rw [beq_eq_false_iff_ne]; omega) | (have e8 : (k == 20) = true := by rw [beq_iff_eq]; omega)
    first | (have n8 : ¬ k = 20 := by omega) | (have n8 : (k != 20) = false := by unfold bne; rw [e8]; rfl)
    first | (have e9 : (k == 28) = false := by rw [beq_eq_false_iff_ne]; omega) | (have e9 : (k == 28) = true := by rw [beq_iff_eq]; omega)
    first | (have n9 : ¬ k = 28 := by omega) | (have n9 : (k != 28) = false := by unfold bne; rw [e9]; rfl)
    first | (have e10 : (k == 29) = false := by rw [beq_eq_false_iff_ne]; omega) | (have e10 : (k == 29) = true := by rw [beq_iff_eq]; omega)
    first | (have n10 : ¬ k = 29 := by omega) | (have n10 : (k != 29) = false := by unfold bne; rw [e10]; rfl)
    first | (have E := hide (show listB k = false from decide_eq_false (by omega))) | (have E := hide (show listB k = true from decide_eq_true (by omega)))
    clear q
    go_enter Tryz.func81, Tryz.ntmps81
    go_wp2_with fail
    go_ret
    exact ⟨ret_bool E.out.symm, rfl⟩
end Go.Proofs.YtldbaoolddlacaaGreatDoor

namespace Go.Proofs.YtldbaoolddlacaaGreatDoor
open Go.RowKit
set_option maxRecDepth 100000
theorem ret_fndA {a b : ByteArray} {c d : Bool} (h : a = b) (g : c = d) : Ending.returned (.tuple #[.string a, .bool c]) = .returned (.tuple #[.string b, .bool d]) := by rw [h, g]
set_option maxHeartbeats 4000000 in
set_option maxRecDepth 100000 in
theorem refAttrS_any (v : Value) (ax : List (ByteArray × ByteArray)) (name : ByteArray) (w : World) (hv : AttrsV w v ax) (hl : ax.length ≤ 4398046511104) :
    Calls Tryz.prog 64 #[v, .string name] w fun e w' => e = .returned (.tuple #[.string (fndS ax name), .bool (findA ax name).isSome]) ∧ w' = w := by
  have HF := hide (refFind_any v ax name w hv hl)
  obtain ⟨p, c, rfl, hv⟩ := hv
  cases hf : findA ax name with
  | none =>
    have E := hide (fnd_miss hf)
    rw [hf, show findV none = -1 from rfl] at HF
    clear hf hv hl
    go_enter Tryz.func64, Tryz.ntmps64
    go_wp2_with fail
    refine HF.out.mono ?_
    rintro e u ⟨rfl, hu⟩
    obtain rfl : w = u := hu.symm
    go_wp2_with fail
    go_ret2
    exact ⟨ret_fndA E.out.1.symm rfl, rfl⟩
  | some i =>
    obtain ⟨hi, _, _⟩ := List.findIdx?_eq_some_iff_getElem.1 (show ax.findIdx? (isN name) = some i from hf)
    have E := hide (fnd_hit hi hf)
    rw [hf, show findV (some i) = (i : Int) from rfl] at HF
    obtain ⟨b, o, rfl, hv2⟩ : ∃ b o, p = some ⟨b, o, none⟩ ∧ ∀ i (h : i < ax.length), w.cell? ⟨b, o + i * 2, none⟩ = some (.string ax[i].1) ∧ w.cell? ⟨b, o + i * 2 + 1, none⟩ = some (.string ax[i].2) := by
      rcases hv with t | t
      · rw [t] at hi; simp at hi
      · exact t
    have c1 := (hv2 i hi).2
    have i0 : (0 : Int) ≤ (i : Int) := by omega
    have i1 : (i : Int) < (ax.length : Int) := by omega
    have i2 : ¬ (i : Int) < 0 := by omega
    generalize ax[i].2 = t at *
    clear hf hv hv2 hl
    go_enter Tryz.func64, Tryz.ntmps64
    go_wp2_with fail
    refine HF.out.mono ?_
    rintro e u ⟨rfl, hu⟩
    obtain rfl : w = u := hu.symm
    go_wp2_with fail
    go_ret2
    exact ⟨ret_fndA E.out.1.symm rfl, rfl⟩
end Go.Proofs.YtldbaoolddlacaaGreatDoor

namespace Go.Proofs.YtldbaoolddlacaaGreatDoor
open Go.RowKit
set_option maxRecDepth 100000
/-- A node's cells, opened. -/
theorem nd_open {w : World} {p : Option Addr} {c : Nat} {l : List Nd} (hv : NodesV w (.slice p l.length c) l) {m : Nat} (h0 : m < l.length) : ∃ b o, p = some ⟨b, o, none⟩ ∧ ∃ va vk, NodeAt w b (o + m * 5) l[m] va vk := by
  obtain ⟨p', c', e, h⟩ := hv
  cases e
  rcases h with h | ⟨b, o, rfl, h⟩
  · rw [h] at h0; cases h0
  · exact ⟨b, o, rfl, h m h0⟩
set_option maxHeartbeats 8000000 in
theorem refKind_any (v : Value) (l : List Nd) (m : Nat) (w : World) (hv : NodesV w v l) (hR : Right l) (h0 : m < l.length) :
    Calls Tryz.prog 80 #[v, .int .i64 (m : Int)] w fun e w' => e = .returned (.int .i64 (kI l (m : Int))) ∧ Below w.heap.size w w' := by
  have sz := right_attrsO hR h0
  have hlen := hR.len.2
  rw [nd_at h0] at sz
  have E : Hid (kI l (m : Int) = kOf l[m].name (tyOf l[m].attrs)) := by show _ = _; unfold kI kN; rw [Int.toNat_natCast, nd_at h0]
  obtain ⟨p, c, rfl⟩ : ∃ p c, v = .slice p l.length c := by obtain ⟨p, c, e, _⟩ := hv; exact ⟨p, c, e⟩
  obtain ⟨b, o, rfl, va, vk, N0⟩ := nd_open hv h0
  have HO := hide (refOf_any l[m] va vk w N0.at_ (by omega) (fun a q => by have := sz.2 a q; omega))
  have a0 := N0.name
  have a1 := N0.text
  have a2 := N0.attrs
  have a3 := N0.parent
  have a4 := N0.kids
  have i0 : (0 : Int) ≤ (m : Int) := by omega
  have i1 : (m : Int) < (l.length : Int) := by omega
  clear hv hR N0 sz hlen
  generalize kOf l[m].name (tyOf l[m].attrs) = z at *
  generalize kI l (m : Int) = z2 at *
  go_enter Tryz.func80, Tryz.ntmps80
  go_wp2_with fail
  refine HO.out.mono ?_
  rintro e w2 ⟨rfl, b2⟩
  go_wp2_with fail
  go_ret
  exact ⟨ret_int E.out.symm, b2⟩
theorem lit_decW (a : ByteArray) (l : List UInt8) : (a.toList == l) = decide (a = ⟨l.toArray⟩) := by
  rw [Bool.eq_iff_iff, beq_iff_eq, decide_eq_true_eq, ByteArray.toList_eq]
  constructor
  · intro e
    apply ByteArray.ext
    exact Array.ext' e
  · intro e; rw [e]
theorem named_in {l : List Nd} (hR : Right l) {s : ByteArray} {f : Int} (e : namedP l s = f) (h : 0 ≤ f) : f < (l.length : Int) := by
  have h0 : 0 < l.length := by have := hR.len.1; omega
  have r0 : inR l 0 := ⟨by omega, by omega⟩
  unfold namedP at e
  split at e
  · omega
  · cases q : (orderP l 0).find? (hasId l s) with
    | none => rw [q] at e; have e : (-1 : Int) = f := e; omega
    | some x =>
      rw [q] at e
      have e : x = f := e
      have m := List.mem_of_find?_eq_some q
      rw [order_down hR r0] at m
      rw [← e]
      exact (down_range (right_sub hR r0) m).2
set_option maxHeartbeats 8000000 in
theorem refForm_any (v : Value) (l : List Nd) (id : Int) (w : World) (hv : NodesV w v l) (hz : DocSz l) :
    Calls Tryz.prog 65 #[v, .int .i64 id] w fun e w' => e = .returned (.int .i64 (formP l id)) ∧ Below w.heap.size w w' := by
  have HH := hide (refHas_any v l id w hv hz)
  cases h : hasN l id with
  | false =>
    have E : Hid (formP l id = -1) := by show _ = _; unfold formP; rw [h, if_neg (fun q => by cases q.1)]
    rw [h] at HH
    obtain ⟨p, c, rfl, _⟩ := hv
    clear h hz
    go_enter Tryz.func65, Tryz.ntmps65
    go_wp2_with fail
    refine HH.out.mono ?_
    rintro e w1 ⟨rfl, b1⟩
    go_wp2_with fail
    go_ret
    exact ⟨ret_int E.out.symm, b1⟩
  | true =>
    obtain ⟨m, hI⟩ := Is.of h
    obtain ⟨rfl, h0⟩ := (⟨hI.eq, hI.lt⟩ : id = (m : Int) ∧ m < l.length)
    have hR := hI.right
    have sz := right_attrsO hR h0
    rw [nd_at h0] at sz
    have hlen := hR.len.2
    have HK := hide (fun W (hb : Below w.heap.size w W) => refKind_any v l m W (hv.below hb) hR h0)
    have HL := hide (fun W => refIs_1 (kI l (m : Int)) W)
    rw [h] at HH
    cases hb : belongs l (m : Int) with
    | false =>
      have E : Hid (formP l (m : Int) = -1) := by show _ = _; unfold formP; rw [hb, if_neg (fun q => by cases q.2)]
      have lb : listB (kI l (m : Int)) = false := by unfold belongs at hb; rw [Bool.or_eq_false_iff] at hb; exact hb.1
      have k20 : ¬ kI l (m : Int) = 20 := by unfold belongs at hb; rw [Bool.or_eq_false_iff] at hb; exact of_decide_eq_false hb.2
      have b20 : (kI l (m : Int) == 20) = false := beq_eq_false_iff_ne.2 k20
      rw [lb] at HL
      obtain ⟨p, c, rfl, _⟩ := hv
      clear hz hI hR h sz hlen hb lb
      generalize kI l (m : Int) = kq at *
      go_enter Tryz.func65, Tryz.ntmps65
      go_wp2_with fail
      refine HH.out.mono ?_
      rintro e w1 ⟨rfl, b1⟩
      go_wp2_with fail
      refine (HK.out _ b1).mono ?_
      rintro e w2 ⟨rfl, b2⟩
      have B2 := hide (chain b1 b2)
      go_wp2_with fail
      refine (HL.out _).mono ?_
      rintro e u ⟨rfl, hu⟩
      obtain rfl : w2 = u := hu.symm
      go_wp2_with fail
      go_ret
      exact ⟨ret_int E.out.symm, B2.out⟩
    | true =>
      have EF : Hid (formP l (m : Int) = formC l (m : Int)) := by show _ = _; unfold formP; rw [if_pos ⟨h, hb⟩]
      have HT := hide (fun W (hb : Below w.heap.size w W) => refTop_any v l (m : Int) m W (hv.below hb) hI)
      have HU := hide (fun W (hb : Below w.heap.size w W) => refUp_any v l (m : Int) m oForm W (hv.below hb) hI)
      have HB := hide (fun x (hx : x.size ≤ maxLen) W (hb : Below w.heap.size w W) => refByID_any v l x W (hv.below hb) hz hR hx)
      rw [show oForm = ⟨#[102, 111, 114, 109]⟩ from rfl] at HU
      obtain ⟨p, c, rfl⟩ : ∃ p c, v = .slice p l.length c := by obtain ⟨p, c, e, _⟩ := hv; exact ⟨p, c, e⟩
      obtain ⟨b, o, rfl, va, vk, N0⟩ := nd_open hv h0
      have HA := hide (fun W (hb : Below w.heap.size w W) => refAttrS_any va l[m].attrs ⟨#[102, 111, 114, 109]⟩ W (N0.at_.below hb) (by omega))
      have N1 := hide N0
      obtain ⟨pa, ka, rfl, _⟩ := N0.at_
      have i0 : (0 : Int) ≤ (m : Int) := by omega
      have i1 : (m : Int) < (l.length : Int) := by omega
      have fz : (fndS l[m].attrs ⟨#[102, 111, 114, 109]⟩).size ≤ maxLen := by
        unfold fndS
        split
        · decide
        · rename_i j e
          obtain ⟨hj, _, _⟩ := List.findIdx?_eq_some_iff_getElem.1 (show l[m].attrs.findIdx? (isN ⟨#[102, 111, 114, 109]⟩) = some j from e)
          rw [show l[m].attrs.getD j at0 = l[m].attrs[j] by simp [List.getD, hj]]
          have := sz.2 _ (List.getElem_mem hj)
          unfold maxLen
          omega
      have HBs := hide (HB.out (fndS l[m].attrs ⟨#[102, 111, 114, 109]⟩) fz)
      have EC : Hid (formC l (m : Int) = if (findA l[m].attrs ⟨#[102, 111, 114, 109]⟩).isSome = true ∧ topP l (m : Int) = 0 then saidF l (fndS l[m].attrs ⟨#[102, 111, 114, 109]⟩) else upP l (m : Int) ⟨#[102, 111, 114, 109]⟩) := by
        show _ = _
        unfold formC hasA
        rw [Int.toNat_natCast, nd_at h0]
        rfl
      have NR : Hid (∀ f : Int, namedP l (fndS l[m].attrs ⟨#[102, 111, 114, 109]⟩) = f → 0 ≤ f → f < (l.length : Int)) := fun f e q => named_in hR e q
      have HN := hide hv
      have LB : (listB (kI l (m : Int)) = true) ∨ (listB (kI l (m : Int)) = false ∧ kI l (m : Int) = 20) := by
        unfold belongs at hb
        rw [Bool.or_eq_true, decide_eq_true_eq] at hb
        cases q : listB (kI l (m : Int)) with
        | true => exact .inl rfl
        | false =>
          rw [q] at hb
          rcases hb with t | t
          · cases t
          · exact .inr ⟨rfl, t⟩
      have SF : Hid (saidF l (fndS l[m].attrs ⟨#[102, 111, 114, 109]⟩) = if 0 ≤ namedP l (fndS l[m].attrs ⟨#[102, 111, 114, 109]⟩) ∧ nmI l (namedP l (fndS l[m].attrs ⟨#[102, 111, 114, 109]⟩)) = oForm then namedP l (fndS l[m].attrs ⟨#[102, 111, 114, 109]⟩) else -1) := rfl
      clear hz hI hR h sz hlen hb HB fz N0 hv
      generalize formP l (m : Int) = FP at *
      generalize formC l (m : Int) = FC at *
      generalize saidF l (fndS l[m].attrs ⟨#[102, 111, 114, 109]⟩) = SD at *
      generalize fndS l[m].attrs ⟨#[102, 111, 114, 109]⟩ = fs at *
      generalize (findA l[m].attrs ⟨#[102, 111, 114, 109]⟩).isSome = fb at *
      generalize topP l (m : Int) = tp at *
      generalize upP l (m : Int) ⟨#[102, 111, 114, 109]⟩ = up at *
      generalize namedP l fs = nm at *
      rcases LB with lb | ⟨lb, k20⟩
      · rw [lb] at HL
        generalize kI l (m : Int) = kq at *
        cases fb with
        | false =>
          have E : Hid (FP = up) := by show _ = _; rw [EF.out, EC.out, if_neg (fun q => by cases q.1)]
          go_enter Tryz.func65, Tryz.ntmps65
          go_wp2_with fail
          refine HH.out.mono ?_
          rintro e w1 ⟨rfl, b1⟩
          go_wp2_with fail
          refine (HK.out _ b1).mono ?_
          rintro e w2 ⟨rfl, b2⟩
          have B2 := hide (chain b1 b2)
          go_wp2_with fail
          refine (HL.out _).mono ?_
          rintro e u ⟨rfl, hu⟩
          obtain rfl : w2 = u := hu.symm
          have a2 := cell_below N1.out.attrs B2.out
          go_wp2_with fail
          refine (HA.out _ B2.out).mono ?_
          rintro e u ⟨rfl, hu⟩
          obtain rfl : w2 = u := hu.symm
          go_wp2_with fail
          refine (HU.out _ B2.out).mono ?_
          rintro e u ⟨rfl, hu⟩
          obtain rfl : w2 = u := hu.symm
          go_wp2_with fail
          go_ret
          exact ⟨ret_int E.out.symm, B2.out⟩
        | true =>
          by_cases t0 : tp = 0
          · subst t0
            by_cases n0 : 0 ≤ nm
            · obtain ⟨q, rfl, hq⟩ : ∃ q : Nat, nm = (q : Int) ∧ q < l.length := ⟨nm.toNat, by omega, by have := NR.out nm rfl n0; omega⟩
              obtain ⟨b', o', e', va', vk', M0⟩ := nd_open HN.out hq
              cases e'
              have M1 := hide M0
              have q0 : (0 : Int) ≤ (q : Int) := by omega
              have q1 : (q : Int) < (l.length : Int) := by omega
              have en : nmI l (q : Int) = l[q].name := by unfold nmI; rw [Int.toNat_natCast, nd_at hq]
              have q3 : ¬ (q : Int) < 0 := by omega
              clear M0
              by_cases ff : l[q].name = oForm
              · have E : Hid (FP = (q : Int)) := by show _ = _; rw [EF.out, EC.out, if_pos ⟨rfl, rfl⟩, SF.out, if_pos ⟨n0, by rw [en]; exact ff⟩]
                have fd : (l[q].name.toList == [102, 111, 114, 109]) = true := by rw [lit_decW]; exact decide_eq_true ff
                clear ff en
                go_enter Tryz.func65, Tryz.ntmps65
                go_wp2_with fail
                refine HH.out.mono ?_
                rintro e w1 ⟨rfl, b1⟩
                go_wp2_with fail
                refine (HK.out _ b1).mono ?_
                rintro e w2 ⟨rfl, b2⟩
                have B2 := hide (chain b1 b2)
                go_wp2_with fail
                refine (HL.out _).mono ?_
                rintro e u ⟨rfl, hu⟩
                obtain rfl : w2 = u := hu.symm
                have a2 := cell_below N1.out.attrs B2.out
                go_wp2_with fail
                refine (HA.out _ B2.out).mono ?_
                rintro e u ⟨rfl, hu⟩
                obtain rfl : w2 = u := hu.symm
                go_wp2_with fail
                refine (HT.out _ B2.out).mono ?_
                rintro e u ⟨rfl, hu⟩
                obtain rfl : w2 = u := hu.symm
                go_wp2_with fail
                refine (HBs.out _ B2.out).mono ?_
                rintro e w3 ⟨rfl, b3⟩
                have B3 := hide (chain B2.out b3)
                have a5 := cell_below M1.out.name B3.out
                go_wp2_with fail
                go_ret
                exact ⟨ret_int E.out.symm, B3.out⟩
              · have E : Hid (FP = -1) := by show _ = _; rw [EF.out, EC.out, if_pos ⟨rfl, rfl⟩, SF.out, if_neg (fun t => ff (by rw [← en]; exact t.2))]
                have fd : (l[q].name.toList == [102, 111, 114, 109]) = false := by rw [lit_decW]; exact decide_eq_false ff
                clear ff en
                go_enter Tryz.func65, Tryz.ntmps65
                go_wp2_with fail
                refine HH.out.mono ?_
                rintro e w1 ⟨rfl, b1⟩
                go_wp2_with fail
                refine (HK.out _ b1).mono ?_
                rintro e w2 ⟨rfl, b2⟩
                have B2 := hide (chain b1 b2)
                go_wp2_with fail
                refine (HL.out _).mono ?_
                rintro e u ⟨rfl, hu⟩
                obtain rfl : w2 = u := hu.symm
                have a2 := cell_below N1.out.attrs B2.out
                go_wp2_with fail
                refine (HA.out _ B2.out).mono ?_
                rintro e u ⟨rfl, hu⟩
                obtain rfl : w2 = u := hu.symm
                go_wp2_with fail
                refine (HT.out _ B2.out).mono ?_
                rintro e u ⟨rfl, hu⟩
                obtain rfl : w2 = u := hu.symm
                go_wp2_with fail
                refine (HBs.out _ B2.out).mono ?_
                rintro e w3 ⟨rfl, b3⟩
                have B3 := hide (chain B2.out b3)
                have a5 := cell_below M1.out.name B3.out
                go_wp2_with fail
                go_ret
                exact ⟨ret_int E.out.symm, B3.out⟩
            · have E : Hid (FP = -1) := by show _ = _; rw [EF.out, EC.out, if_pos ⟨rfl, rfl⟩, SF.out, if_neg (fun t => n0 t.1)]
              have d0 : decide (0 ≤ nm) = false := decide_eq_false n0
              go_enter Tryz.func65, Tryz.ntmps65
              go_wp2_with fail
              refine HH.out.mono ?_
              rintro e w1 ⟨rfl, b1⟩
              go_wp2_with fail
              refine (HK.out _ b1).mono ?_
              rintro e w2 ⟨rfl, b2⟩
              have B2 := hide (chain b1 b2)
              go_wp2_with fail
              refine (HL.out _).mono ?_
              rintro e u ⟨rfl, hu⟩
              obtain rfl : w2 = u := hu.symm
              have a2 := cell_below N1.out.attrs B2.out
              go_wp2_with fail
              refine (HA.out _ B2.out).mono ?_
              rintro e u ⟨rfl, hu⟩
              obtain rfl : w2 = u := hu.symm
              go_wp2_with fail
              refine (HT.out _ B2.out).mono ?_
              rintro e u ⟨rfl, hu⟩
              obtain rfl : w2 = u := hu.symm
              go_wp2_with fail
              refine (HBs.out _ B2.out).mono ?_
              rintro e w3 ⟨rfl, b3⟩
              have B3 := hide (chain B2.out b3)
              go_wp2_with fail
              go_ret
              exact ⟨ret_int E.out.symm, B3.out⟩
          · have E : Hid (FP = up) := by show _ = _; rw [EF.out, EC.out, if_neg (fun q => t0 q.2)]
            have tb : (tp == 0) = false := beq_eq_false_iff_ne.2 t0
            go_enter Tryz.func65, Tryz.ntmps65
            go_wp2_with fail
            refine HH.out.mono ?_
            rintro e w1 ⟨rfl, b1⟩
            go_wp2_with fail
            refine (HK.out _ b1).mono ?_
            rintro e w2 ⟨rfl, b2⟩
            have B2 := hide (chain b1 b2)
            go_wp2_with fail
            refine (HL.out _).mono ?_
            rintro e u ⟨rfl, hu⟩
            obtain rfl : w2 = u := hu.symm
            have a2 := cell_below N1.out.attrs B2.out
            go_wp2_with fail
            refine (HA.out _ B2.out).mono ?_
            rintro e u ⟨rfl, hu⟩
            obtain rfl : w2 = u := hu.symm
            go_wp2_with fail
            refine (HT.out _ B2.out).mono ?_
            rintro e u ⟨rfl, hu⟩
            obtain rfl : w2 = u := hu.symm
            go_wp2_with fail
            refine (HU.out _ B2.out).mono ?_
            rintro e u ⟨rfl, hu⟩
            obtain rfl : w2 = u := hu.symm
            go_wp2_with fail
            go_ret
            exact ⟨ret_int E.out.symm, B2.out⟩
      · rw [lb] at HL
        rw [k20] at HL HK
        cases fb with
        | false =>
          have E : Hid (FP = up) := by show _ = _; rw [EF.out, EC.out, if_neg (fun q => by cases q.1)]
          go_enter Tryz.func65, Tryz.ntmps65
          go_wp2_with fail
          refine HH.out.mono ?_
          rintro e w1 ⟨rfl, b1⟩
          go_wp2_with fail
          refine (HK.out _ b1).mono ?_
          rintro e w2 ⟨rfl, b2⟩
          have B2 := hide (chain b1 b2)
          go_wp2_with fail
          refine (HL.out _).mono ?_
          rintro e u ⟨rfl, hu⟩
          obtain rfl : w2 = u := hu.symm
          have a2 := cell_below N1.out.attrs B2.out
          go_wp2_with fail
          refine (HA.out _ B2.out).mono ?_
          rintro e u ⟨rfl, hu⟩
          obtain rfl : w2 = u := hu.symm
          go_wp2_with fail
          refine (HU.out _ B2.out).mono ?_
          rintro e u ⟨rfl, hu⟩
          obtain rfl : w2 = u := hu.symm
          go_wp2_with fail
          go_ret
          exact ⟨ret_int E.out.symm, B2.out⟩
        | true =>
          by_cases t0 : tp = 0
          · subst t0
            by_cases n0 : 0 ≤ nm
            · obtain ⟨q, rfl, hq⟩ : ∃ q : Nat, nm = (q : Int) ∧ q < l.length := ⟨nm.toNat, by omega, by have := NR.out nm rfl n0; omega⟩
              obtain ⟨b', o', e', va', vk', M0⟩ := nd_open HN.out hq
              cases e'
              have M1 := hide M0
              have q0 : (0 : Int) ≤ (q : Int) := by omega
              have q1 : (q : Int) < (l.length : Int) := by omega
              have en : nmI l (q : Int) = l[q].name := by unfold nmI; rw [Int.toNat_natCast, nd_at hq]
              have q3 : ¬ (q : Int) < 0 := by omega
              clear M0
              by_cases ff : l[q].name = oForm
              · have E : Hid (FP = (q : Int)) := by show _ = _; rw [EF.out, EC.out, if_pos ⟨rfl, rfl⟩, SF.out, if_pos ⟨n0, by rw [en]; exact ff⟩]
                have fd : (l[q].name.toList == [102, 111, 114, 109]) = true := by rw [lit_decW]; exact decide_eq_true ff
                clear ff en
                go_enter Tryz.func65, Tryz.ntmps65
                go_wp2_with fail
                refine HH.out.mono ?_
                rintro e w1 ⟨rfl, b1⟩
                go_wp2_with fail
                refine (HK.out _ b1).mono ?_
                rintro e w2 ⟨rfl, b2⟩
                have B2 := hide (chain b1 b2)
                go_wp2_with fail
                refine (HL.out _).mono ?_
                rintro e u ⟨rfl, hu⟩
                obtain rfl : w2 = u := hu.symm
                have a2 := cell_below N1.out.attrs B2.out
                go_wp2_with fail
                refine (HA.out _ B2.out).mono ?_
                rintro e u ⟨rfl, hu⟩
                obtain rfl : w2 = u := hu.symm
                go_wp2_with fail
                refine (HT.out _ B2.out).mono ?_
                rintro e u ⟨rfl, hu⟩
                obtain rfl : w2 = u := hu.symm
                go_wp2_with fail
                refine (HBs.out _ B2.out).mono ?_
                rintro e w3 ⟨rfl, b3⟩
                have B3 := hide (chain B2.out b3)
                have a5 := cell_below M1.out.name B3.out
                go_wp2_with fail
                go_ret
                exact ⟨ret_int E.out.symm, B3.out⟩
              · have E : Hid (FP = -1) := by show _ = _; rw [EF.out, EC.out, if_pos ⟨rfl, rfl⟩, SF.out, if_neg (fun t => ff (by rw [← en]; exact t.2))]
                have fd : (l[q].name.toList == [102, 111, 114, 109]) = false := by rw [lit_decW]; exact decide_eq_false ff
                clear ff en
                go_enter Tryz.func65, Tryz.ntmps65
                go_wp2_with fail
                refine HH.out.mono ?_
                rintro e w1 ⟨rfl, b1⟩
                go_wp2_with fail
                refine (HK.out _ b1).mono ?_
                rintro e w2 ⟨rfl, b2⟩
                have B2 := hide (chain b1 b2)
                go_wp2_with fail
                refine (HL.out _).mono ?_
                rintro e u ⟨rfl, hu⟩
                obtain rfl : w2 = u := hu.symm
                have a2 := cell_below N1.out.attrs B2.out
                go_wp2_with fail
                refine (HA.out _ B2.out).mono ?_
                rintro e u ⟨rfl, hu⟩
                obtain rfl : w2 = u := hu.symm
                go_wp2_with fail
                refine (HT.out _ B2.out).mono ?_
                rintro e u ⟨rfl, hu⟩
                obtain rfl : w2 = u := hu.symm
                go_wp2_with fail
                refine (HBs.out _ B2.out).mono ?_
                rintro e w3 ⟨rfl, b3⟩
                have B3 := hide (chain B2.out b3)
                have a5 := cell_below M1.out.name B3.out
                go_wp2_with fail
                go_ret
                exact ⟨ret_int E.out.symm, B3.out⟩
            · have E : Hid (FP = -1) := by show _ = _; rw [EF.out, EC.out, if_pos ⟨rfl, rfl⟩, SF.out, if_neg (fun t => n0 t.1)]
              have d0 : decide (0 ≤ nm) = false := decide_eq_false n0
              go_enter Tryz.func65, Tryz.ntmps65
              go_wp2_with fail
              refine HH.out.mono ?_
              rintro e w1 ⟨rfl, b1⟩
              go_wp2_with fail
              refine (HK.out _ b1).mono ?_
              rintro e w2 ⟨rfl, b2⟩
              have B2 := hide (chain b1 b2)
              go_wp2_with fail
              refine (HL.out _).mono ?_
              rintro e u ⟨rfl, hu⟩
              obtain rfl : w2 = u := hu.symm
              have a2 := cell_below N1.out.attrs B2.out
              go_wp2_with fail
              refine (HA.out _ B2.out).mono ?_
              rintro e u ⟨rfl, hu⟩
              obtain rfl : w2 = u := hu.symm
              go_wp2_with fail
              refine (HT.out _ B2.out).mono ?_
              rintro e u ⟨rfl, hu⟩
              obtain rfl : w2 = u := hu.symm
              go_wp2_with fail
              refine (HBs.out _ B2.out).mono ?_
              rintro e w3 ⟨rfl, b3⟩
              have B3 := hide (chain B2.out b3)
              go_wp2_with fail
              go_ret
              exact ⟨ret_int E.out.symm, B3.out⟩
          · have E : Hid (FP = up) := by show _ = _; rw [EF.out, EC.out, if_neg (fun q => t0 q.2)]
            have tb : (tp == 0) = false := beq_eq_false_iff_ne.2 t0
            go_enter Tryz.func65, Tryz.ntmps65
            go_wp2_with fail
            refine HH.out.mono ?_
            rintro e w1 ⟨rfl, b1⟩
            go_wp2_with fail
            refine (HK.out _ b1).mono ?_
            rintro e w2 ⟨rfl, b2⟩
            have B2 := hide (chain b1 b2)
            go_wp2_with fail
            refine (HL.out _).mono ?_
            rintro e u ⟨rfl, hu⟩
            obtain rfl : w2 = u := hu.symm
            have a2 := cell_below N1.out.attrs B2.out
            go_wp2_with fail
            refine (HA.out _ B2.out).mono ?_
            rintro e u ⟨rfl, hu⟩
            obtain rfl : w2 = u := hu.symm
            go_wp2_with fail
            refine (HT.out _ B2.out).mono ?_
            rintro e u ⟨rfl, hu⟩
            obtain rfl : w2 = u := hu.symm
            go_wp2_with fail
            refine (HU.out _ B2.out).mono ?_
            rintro e u ⟨rfl, hu⟩
            obtain rfl : w2 = u := hu.symm
            go_wp2_with fail
            go_ret
            exact ⟨ret_int E.out.symm, B2.out⟩
end Go.Proofs.YtldbaoolddlacaaGreatDoor

namespace Go.Proofs.YtldbaoolddlacaaGreatDoor
open Go.RowKit
theorem alone_tx {n : Nd} (h : noName n.name = true) : aloneB n = (n.attrs.isEmpty && (n.kids.isEmpty && decide (n.text.size ≤ 4000))) := by
  unfold aloneB
  have : n.name.size = 0 := by unfold noName at h; exact beq_iff_eq.1 h
  rw [if_pos this]
theorem alone_elem {n : Nd} (h : noName n.name = false) : aloneB n = (nameOk n.name && (n.text.size == 0 && attrsB n.attrs)) := by
  unfold aloneB attrsB
  have : ¬ n.name.size = 0 := by unfold noName at h; rw [beq_eq_false_iff_ne] at h; exact h
  rw [if_neg this]
theorem len_nil {α : Type} (l : List α) : ((l.length : Int) == 0) = l.isEmpty := by
  cases l with
  | nil => rfl
  | cons a t => show (((t.length + 1 : Nat) : Int) == 0) = false; rw [beq_eq_false_iff_ne]; omega
theorem noName_list (n : ByteArray) : (n.toList == []) = noName n := by
  cases q : noName n with
  | true => rw [noName_true q, ByteArray.toList_eq]; rfl
  | false => rw [beq_eq_false_iff_ne]; exact noName_false q
set_option maxHeartbeats 2000000 in
theorem isFormed_any (b o : Nat) (n : Nd) (va vk : Value) (w : World) (hn : NodeAt w b o n va vk) (hz : NdSz n) :
    Calls Tryz.prog 49 #[.pointer (some ⟨b, o, none⟩)] w fun e w' => e = .returned (.bool (aloneB n)) ∧ Below w.heap.size w w' := by
  have c0 := hn.name
  have c1 := hn.text
  have c2 := hn.attrs
  have c3 := hn.parent
  have c4 := hn.kids
  have z0 := hz.name
  have z1 := hz.text
  have HT := hide (fun w => isText_any n.name n.text va n.parent vk w)
  obtain ⟨pa, ca, ea, ha⟩ := hn.at_
  obtain ⟨pk, ck, ek, hk⟩ := hn.ks
  have hcap := hn.cap _ _ _ ea
  subst ea ek
  have za := hz.attrs
  have zk := hz.kids
  have HA := hide (fun W (hb : Below w.heap.size w W) => areAttrs_any pa ca n.attrs W (hn.at_.below hb) hz.attrs hcap hz.attr)
  have HN := hide (fun W => isName_any n.name W hz.name)
  unfold maxLen at z0 z1
  have CB : Hid (∀ W, Below w.heap.size w W → NodeAt W b o n _ _) := fun W hb => hn.below hb
  have LA := hide (len_nil n.attrs)
  have LK := hide (len_nil n.kids)
  have AT := hide (fun h => alone_tx (n := n) h)
  have AE := hide (fun h => alone_elem (n := n) h)
  clear ha hk hn hz hcap
  cases q : noName n.name with
  | true =>
    have E := AT.out q
    rw [q] at HT
    have EE := hide E
    clear E AT AE HN HA
    by_cases r1 : n.text.size ≤ 4000
    · rw [decide_eq_true r1, Bool.and_true] at EE
      have i1 : (n.text.size : Int) ≤ 4000 := by omega
      have i2 : decide ((n.text.size : Int) ≤ 4000) = true := decide_eq_true i1
      cases r2 : n.attrs.isEmpty with
      | true =>
        rw [r2] at EE LA
        have la := LA.out
        cases r3 : n.kids.isEmpty with
        | true =>
          rw [r3] at EE LK
          have lk := LK.out
          clear r2 r3 LA LK
          go_enter Tryz.func49, Tryz.ntmps49
          go_wp2_with fail
          refine (HT.out _).mono ?_
          rintro e w1 ⟨rfl, b1⟩
          have C := CB.out w1 b1
          have c0 := C.name
          have c1 := C.text
          have c2 := C.attrs
          have c4 := C.kids
          clear C CB
          go_wp2_with fail
          go_ret
          exact ⟨ret_bool EE.out.symm, b1⟩
        | false =>
          rw [r3] at EE LK
          have lk := LK.out
          clear r2 r3 LA LK
          go_enter Tryz.func49, Tryz.ntmps49
          go_wp2_with fail
          refine (HT.out _).mono ?_
          rintro e w1 ⟨rfl, b1⟩
          have C := CB.out w1 b1
          have c0 := C.name
          have c1 := C.text
          have c2 := C.attrs
          have c4 := C.kids
          clear C CB
          go_wp2_with fail
          go_ret
          exact ⟨ret_bool EE.out.symm, b1⟩
      | false =>
        rw [r2, Bool.false_and] at EE
        rw [r2] at LA
        have la := LA.out
        clear r2 LA LK
        go_enter Tryz.func49, Tryz.ntmps49
        go_wp2_with fail
        refine (HT.out _).mono ?_
        rintro e w1 ⟨rfl, b1⟩
        have C := CB.out w1 b1
        have c0 := C.name
        have c1 := C.text
        have c2 := C.attrs
        have c4 := C.kids
        clear C CB
        go_wp2_with fail
        go_ret
        exact ⟨ret_bool EE.out.symm, b1⟩
    · rw [decide_eq_false r1, Bool.and_false, Bool.and_false] at EE
      have i1 : ¬ (n.text.size : Int) ≤ 4000 := by omega
      have i2 : decide ((n.text.size : Int) ≤ 4000) = false := decide_eq_false i1
      clear r1 LA LK
      go_enter Tryz.func49, Tryz.ntmps49
      go_wp2_with fail
      refine (HT.out _).mono ?_
      rintro e w1 ⟨rfl, b1⟩
      have C := CB.out w1 b1
      have c0 := C.name
      have c1 := C.text
      have c2 := C.attrs
      have c4 := C.kids
      clear C CB
      go_wp2_with fail
      go_ret
      exact ⟨ret_bool EE.out.symm, b1⟩
  | false =>
    have EE := hide (AE.out q)
    rw [q] at HT
    clear AT AE LA LK
    cases r1 : nameOk n.name with
    | false =>
      rw [r1, Bool.false_and] at EE
      rw [r1] at HN
      clear r1 HA
      go_enter Tryz.func49, Tryz.ntmps49
      go_wp2_with fail
      refine (HT.out _).mono ?_
      rintro e w1 ⟨rfl, b1⟩
      have C := CB.out w1 b1
      have c0 := C.name
      have c1 := C.text
      have c2 := C.attrs
      have c4 := C.kids
      clear C CB
      go_wp2_with fail
      refine (HN.out _).mono ?_
      rintro e w2 ⟨rfl, hw⟩
      obtain rfl : w1 = w2 := hw.symm
      go_wp2_with fail
      go_ret
      exact ⟨ret_bool EE.out.symm, b1⟩
    | true =>
      rw [r1, Bool.true_and] at EE
      rw [r1] at HN
      clear r1
      have T1 := hide (noName_list n.text)
      cases r2 : noName n.text with
      | false =>
        have e5 : (n.text.size == 0) = false := r2
        rw [e5, Bool.false_and] at EE
        have e1 := noName_false r2
        have e2 : n.text.toList.isEmpty = false := by cases h : n.text.toList with
          | nil => exact absurd h e1
          | cons => rfl
        rw [r2] at T1
        have e3 := T1.out
        clear r2 e5 T1 HA
        go_enter Tryz.func49, Tryz.ntmps49
        go_wp2_with fail
        refine (HT.out _).mono ?_
        rintro e w1 ⟨rfl, b1⟩
        have C := CB.out w1 b1
        have c0 := C.name
        have c1 := C.text
        have c2 := C.attrs
        have c4 := C.kids
        clear C CB
        go_wp2_with fail
        refine (HN.out _).mono ?_
        rintro e w2 ⟨rfl, hw⟩
        obtain rfl : w1 = w2 := hw.symm
        go_wp2_with fail
        go_ret
        exact ⟨ret_bool EE.out.symm, b1⟩
      | true =>
        have e5 : (n.text.size == 0) = true := r2
        rw [e5, Bool.true_and] at EE
        have et := noName_true r2
        rw [et] at c1 HT
        have ET := hide et
        clear r2 e5 T1 et z1
        go_enter Tryz.func49, Tryz.ntmps49
        go_wp2_with fail
        refine (HT.out _).mono ?_
        rintro e w1 ⟨rfl, b1⟩
        have C := CB.out w1 b1
        have c0 := C.name
        have c1 := C.text
        rw [ET.out] at c1
        have c2 := C.attrs
        have c4 := C.kids
        clear C CB
        go_wp2_with fail
        refine (HN.out _).mono ?_
        rintro e w2 ⟨rfl, hw⟩
        obtain rfl : w1 = w2 := hw.symm
        go_wp2_with fail
        refine (HA.out _ b1).mono ?_
        rintro e w3 ⟨rfl, b3⟩
        go_wp2_with fail
        go_ret
        exact ⟨ret_bool EE.out.symm, chain b1 b3⟩
end Go.Proofs.YtldbaoolddlacaaGreatDoor

namespace Go.Proofs.YtldbaoolddlacaaGreatDoor
open Go.RowKit
def rootsTo (l : List Nd) (i : Nat) : List Int := ((List.range i).filter fun i => (nd l i).parent == -1).map fun i : Nat => (i : Int)
theorem rootsTo_succ (l : List Nd) (i : Nat) : rootsTo l (i + 1) = rootsTo l i ++ (if (nd l i).parent = -1 then [(i : Int)] else []) := by
  unfold rootsTo
  rw [List.range_succ, List.filter_append, List.map_append]
  congr 1
  by_cases h : (nd l i).parent = -1
  · rw [if_pos h, List.filter_cons, if_pos (by rw [h]; rfl)]; rfl
  · rw [if_neg h, List.filter_cons, if_neg (by rw [beq_iff_eq]; exact h)]; rfl
theorem rootsTo_sub {l : List Nd} {i : Nat} (h : i ≤ l.length) : ((rootsTo l i).flatMap (downF l l.length)).length ≤ (allL l).length := by
  obtain ⟨k, hk⟩ : ∃ k, l.length = i + k := ⟨l.length - i, by omega⟩
  unfold allL rootsL rootsTo
  rw [show List.range l.length = List.range (i + k) by rw [hk], List.range_add, List.filter_append, List.map_append, List.flatMap_append, List.length_append]
  omega
theorem all_len {l : List Nd} (h : Linked l) : (allL l).length ≤ l.length := nodup_len _ _ (all_nodup h) fun _ hx => all_range h hx
set_option maxHeartbeats 4000000 in
set_option maxRecDepth 100000 in
theorem areReached_any (v : Value) (l : List Nd) (w : World) (hv : NodesV w v l) (h4 : l.length ≤ 400) (hl : Linked l) :
    Calls Tryz.prog 51 #[v] w fun e w' => e = .returned (.bool (decide ((allL l).length = l.length))) ∧ Below w.heap.size w w' := by
  have HV := hide hv
  obtain ⟨p, c, rfl, hv⟩ := hv
  have HP := hide hv
  obtain ⟨iI, hI0, hI1, hI2, hI3⟩ := info_parts infoI
  have MK := hide (fun w => run_make (P := Tryz.prog) w 38 3 iI (.int .i64 0) Tryz.underlying38 hI0 hI1 .i64 .i64 (0 : Int) (l.length : Int) (by omega) (by omega) (by rw [hI3]; omega) (by omega))
  rw [hI2] at MK
  have HLk := hide hl
  have HD := hide (fun (k : Int) (xs : List Int) (lv : Value) (W : World) => down_any w _ l HV.out l.length k xs lv W)
  have mk := fun w => MK.out w
  clear hv hl hI0 hI1 hI2 hI3
  go_enter Tryz.func51, Tryz.ntmps51
  go_wp2_with fail
  generalize hw1 : w.alloc (.cells (madeCells #[Value.int .i64 0] l.length) 3) = w1
  have K1 : Hid (KidsO w.heap.size w1 (.slice (some ⟨w.heap.size, 0, none⟩) 0 l.length) []) := by
    rw [← hw1]
    exact World.ownsRow_made w _ _ (Nat.le_refl _) (by unfold maxLen; omega) (by rw [size_madeCells]; simp)
  have B1 : Hid (Below w.heap.size w w1) := by rw [← hw1]; exact (Below.refl _ w).alloc (Nat.le_refl _) _
  clear hw1 mk MK
  go_loopw [3, 10] (fun sv iv wr => ∃ i : Nat, i ≤ l.length ∧ iv = .int .i64 i ∧ Hid (KidsO w.heap.size wr sv ((rootsTo l i).flatMap (downF l l.length))) ∧ Hid (Below w.heap.size w wr)) (fun _ iv _ => l.length - (intOf iv).toNat)
  case atStart => exact ⟨0, Nat.zero_le _, rfl, K1, B1⟩
  case round =>
    rename World => wr
    obtain ⟨i, hi, rfl, KO, BW⟩ := hrel
    clear K1 B1
    by_cases h : i < l.length
    · have i1 : (i : Int) < (l.length : Int) := by omega
      have i0 : (0 : Int) ≤ (i : Int) := by omega
      obtain ⟨b, o, rfl, hcell⟩ : ∃ b o, p = some ⟨b, o, none⟩ ∧ ∀ i (h : i < l.length), ∃ va vk, NodeAt w b (o + i * 5) l[i] va vk := by
        rcases HP.out with q | q
        · rw [q] at h; simp at h
        · exact q
      obtain ⟨va, vk, N0⟩ := hcell i h
      have a3 := (N0.below BW.out).parent
      have E := rootsTo_succ l i
      rw [nd_at h] at E
      have PI := hide (parI_nat h)
      have ER := hide E
      clear N0 hcell E
      by_cases q : l[i].parent = -1
      · have f1 : (l[i].parent == -1) = true := by rw [q]; rfl
        have f2 : (l[i].parent != -1) = false := by rw [q]; rfl
        have e1 : rootsTo l (i + 1) = rootsTo l i ++ [(i : Int)] := by rw [ER.out, if_pos q]
        have hs : Sub l l.length (i : Int) := root_sub HLk.out (mem_roots.2 ⟨⟨i0, i1⟩, by rw [PI.out, q]⟩)
        have e2 : (rootsTo l (i + 1)).flatMap (downF l l.length) = (rootsTo l i).flatMap (downF l l.length) ++ downF l l.length (i : Int) := by rw [e1, List.flatMap_append, List.flatMap_singleton]
        have L1 := rootsTo_sub (l := l) (i := i + 1) (by omega)
        have L2 := all_len HLk.out
        have HC := hide (HD.out (i : Int) _ _ wr BW.out KO.out hs (by rw [e2, List.length_append] at L1; omega))
        rw [← e2] at HC
        clear q e1 hs e2 L1 L2 ER PI KO HD
        generalize l[i].parent = pm at *
        go_wp2_with fail
        refine HC.out.mono ?_
        rintro e w2 ⟨v2, rfl, k2, b2⟩
        go_wp2_with fail
        go_roundw
        case rel => exact ⟨i + 1, by omega, by go_num, k2, b2⟩
        case measure => simp [intOf]; omega
      · have f1 : (l[i].parent == -1) = false := by rw [beq_eq_false_iff_ne]; exact q
        have f2 : (l[i].parent != -1) = true := by rw [bne_iff_ne]; exact q
        have e1 : rootsTo l (i + 1) = rootsTo l i := by rw [ER.out, if_neg q, List.append_nil]
        have KO' := hide KO.out
        rw [← e1] at KO'
        clear q e1 ER PI KO HD
        generalize l[i].parent = pm at *
        go_wp2_with fail
        go_roundw
        case rel => exact ⟨i + 1, by omega, by go_num, KO', BW⟩
        case measure => simp [intOf]; omega
    · obtain rfl : i = l.length := by omega
      have KF := KO.out
      have e1 : (rootsTo l l.length).flatMap (downF l l.length) = allL l := rfl
      rw [e1] at KF
      obtain ⟨pp, cc, ev, _⟩ := KF.ints
      have E : Hid ((((allL l).length : Int) == (l.length : Int)) = decide ((allL l).length = l.length)) := by
        show _ = _
        by_cases t : (allL l).length = l.length
        · rw [decide_eq_true t, t]; simp
        · rw [decide_eq_false t, beq_eq_false_iff_ne]; omega
      clear KF e1 KO h HD
      subst ev
      go_wp2_with fail
      go_ret
      exact ⟨ret_bool E.out, BW.out⟩
theorem not_right {l : List Nd} (h : ¬ Right l) : rightB l = false := by
  cases q : rightB l with
  | false => rfl
  | true => exact absurd (right_is.1 q) h
set_option maxHeartbeats 4000000 in
set_option maxRecDepth 100000 in
theorem right_any (v : Value) (l : List Nd) (w : World) (hv : NodesV w v l) (hz : DocSz l) :
    Calls Tryz.prog 29 #[v] w fun e w' => e = .returned (.bool (rightB l)) ∧ Below w.heap.size w w' := by
  have HV := hide hv
  obtain ⟨p, c, rfl, hv⟩ := hv
  have HP := hide hv
  have hlen := hz.len
  have HZ := hide hz
  clear hv hz
  by_cases h1 : l.length < 1
  · have E := hide (not_right (l := l) (fun r => by have := r.len; omega))
    have i1 : (l.length : Int) < 1 := by omega
    clear h1
    go_enter Tryz.func29, Tryz.ntmps29
    go_wp2_with fail
    go_ret
    exact ⟨ret_bool E.out.symm, Below.refl _ _⟩
  by_cases h2 : 400 < l.length
  · have E := hide (not_right (l := l) (fun r => by have := r.len; omega))
    have i1 : ¬ (l.length : Int) < 1 := by omega
    have i2 : (400 : Int) < (l.length : Int) := by omega
    clear h1 h2
    go_enter Tryz.func29, Tryz.ntmps29
    go_wp2_with fail
    go_ret
    exact ⟨ret_bool E.out.symm, Below.refl _ _⟩
  have i1 : ¬ (l.length : Int) < 1 := by omega
  have i2 : ¬ (400 : Int) < (l.length : Int) := by omega
  have i3 : decide ((400 : Int) < (l.length : Int)) = false := decide_eq_false i2
  have n4 : l.length ≤ 400 := by omega
  have p0 : 0 < l.length := by omega
  have i4 : (0 : Int) < (l.length : Int) := by omega
  obtain ⟨b, o, rfl, hcell⟩ : ∃ b o, p = some ⟨b, o, none⟩ ∧ ∀ i (h : i < l.length), ∃ va vk, NodeAt w b (o + i * 5) l[i] va vk := by
    rcases HP.out with q | q
    · rw [q] at p0; simp at p0
    · exact q
  have HC := hide hcell
  obtain ⟨va, vk, N0⟩ := hcell 0 p0
  rw [Nat.zero_mul, Nat.add_zero] at N0
  have a0 := N0.name
  have a1 := N0.text
  have a2 := N0.attrs
  have a3 := N0.parent
  have a4 := N0.kids
  have NW : Hid (∀ W, Below w.heap.size w W → NodeAt W b o l[0] va vk) := fun W hb => N0.below hb
  have HT := hide (fun W => isText_any l[0].name l[0].text va l[0].parent vk W)
  have e0 : nd l 0 = l[0] := nd_at p0
  clear hcell N0 HP h1 h2
  cases q1 : noName l[0].name with
  | true =>
    have E := hide (not_right (l := l) (fun r => r.head (by rw [e0]; unfold noName at q1; exact beq_iff_eq.1 q1)))
    rw [q1] at HT
    clear q1 e0
    go_enter Tryz.func29, Tryz.ntmps29
    go_wp2_with fail
    refine (HT.out _).mono ?_
    rintro e w1 ⟨rfl, b1⟩
    go_wp2_with fail
    go_ret
    exact ⟨ret_bool E.out.symm, b1⟩
  | false =>
    rw [q1] at HT
    have NH : Hid (¬ (nd l 0).name.size = 0) := by rw [e0]; intro t; unfold noName at q1; rw [t] at q1; cases q1
    clear q1
    by_cases q2 : l[0].parent = -1
    rotate_left
    · have E := hide (not_right (l := l) (fun r => q2 (by rw [← e0]; exact r.root)))
      have f1 : (l[0].parent != -1) = true := by rw [bne_iff_ne]; exact q2
      have f2 : (l[0].parent == -1) = false := by rw [beq_eq_false_iff_ne]; exact q2
      clear q2 e0
      go_enter Tryz.func29, Tryz.ntmps29
      go_wp2_with fail
      refine (HT.out _).mono ?_
      rintro e w1 ⟨rfl, b1⟩
      have d3 := (NW.out w1 b1).parent
      go_wp2_with fail
      go_ret
      exact ⟨ret_bool E.out.symm, b1⟩
    have f1 : (l[0].parent != -1) = false := by rw [q2]; rfl
    have f2 : (l[0].parent == -1) = true := by rw [q2]; rfl
    have RT : Hid ((nd l 0).parent = -1) := by rw [e0]; exact q2
    clear e0 q2
    go_enter Tryz.func29, Tryz.ntmps29
    go_wp2_with fail
    refine (HT.out _).mono ?_
    rintro e w1 ⟨rfl, b1⟩
    have d3 := (NW.out w1 b1).parent
    go_wp2_with fail
    have B1 := hide b1
    clear b1 d3 a0 a1 a2 a3 a4 NW HT f1 f2
    go_loopw [27] (fun iv wr => ∃ i : Nat, i ≤ l.length ∧ iv = .int .i64 i ∧ Hid (∀ j, j < i → aloneB (nd l j) = true) ∧ Hid (Below w.heap.size w wr)) (fun iv _ => l.length - (intOf iv).toNat)
    case atStart => exact ⟨0, Nat.zero_le _, rfl, fun j q => by omega, B1⟩
    case round =>
      rename World => wr
      obtain ⟨i, hi, rfl, AL, BW⟩ := hrel
      clear B1
      by_cases h : i < l.length
      · have j1 : (i : Int) < (l.length : Int) := by omega
        have j0 : (0 : Int) ≤ (i : Int) := by omega
        obtain ⟨va, vk, N0⟩ := HC.out i h
        have HF := hide (isFormed_any b (o + i * 5) l[i] va vk wr (N0.below BW.out) (HZ.out.nds l[i] (List.getElem_mem _)))
        have e0 : nd l i = l[i] := nd_at h
        clear N0
        cases q : aloneB l[i] with
        | false =>
          have E := hide (not_right (l := l) (fun r => by have := r.alone i h; rw [e0, q] at this; cases this))
          rw [q] at HF
          clear q e0
          go_wp2_with fail
          refine HF.out.mono ?_
          rintro e w2 ⟨rfl, b2⟩
          go_wp2_with fail
          go_ret
          exact ⟨ret_bool E.out.symm, chain BW.out b2⟩
        | true =>
          have E : Hid (∀ j, j < i + 1 → aloneB (nd l j) = true) := fun j hj => by
            rcases Nat.lt_or_ge j i with t | t
            · exact AL.out j t
            · obtain rfl : j = i := by omega
              rw [e0]; exact q
          rw [q] at HF
          clear q e0 AL
          go_wp2_with fail
          refine HF.out.mono ?_
          rintro e w2 ⟨rfl, b2⟩
          go_wp2_with fail
          go_roundw
          case rel => exact ⟨i + 1, by omega, by go_num, E, chain BW.out b2⟩
          case measure => simp [intOf]; omega
      · obtain rfl : i = l.length := by omega
        have HL := hide (areLinked_any _ l wr (HV.out.below BW.out) HZ.out n4)
        have HR := hide (fun (hl : Linked l) W (hb : Below w.heap.size w W) => areReached_any _ l W (HV.out.below hb) n4 hl)
        clear h
        go_wp2_with fail
        refine HL.out.mono ?_
        rintro e w2 ⟨⟨r, rfl, hr⟩, b2⟩
        have HR2 := hide hr
        clear hr
        cases r with
        | false =>
          have E := hide (not_right (l := l) (fun r => by have := HR2.out.2 (right_linked r); cases this))
          clear HL HR HR2
          go_wp2_with fail
          go_ret
          exact ⟨ret_bool E.out.symm, chain BW.out b2⟩
        | true =>
          have LK := HR2.out.1 rfl
          have HR' := hide (HR.out LK w2 (chain BW.out b2))
          by_cases t : (allL l).length = l.length
          · have E := hide (right_is.2 (right_of (l := l) ⟨p0, n4⟩ NH.out RT.out (fun i hi => AL.out i hi) LK t))
            rw [decide_eq_true t] at HR'
            clear HL HR HR2 t LK
            go_wp2_with fail
            refine HR'.out.mono ?_
            rintro e w3 ⟨rfl, b3⟩
            go_wp2_with fail
            go_ret
            exact ⟨ret_bool E.out.symm, chain (chain BW.out b2) b3⟩
          · have E := hide (not_right (l := l) (fun r => t (right_reached r)))
            rw [decide_eq_false t] at HR'
            clear HL HR HR2 t LK
            go_wp2_with fail
            refine HR'.out.mono ?_
            rintro e w3 ⟨rfl, b3⟩
            go_wp2_with fail
            go_ret
            exact ⟨ret_bool E.out.symm, chain (chain BW.out b2) b3⟩
end Go.Proofs.YtldbaoolddlacaaGreatDoor

namespace Go.Proofs.YtldbaoolddlacaaGreatDoor
open Go.RowKit
set_option maxHeartbeats 1000000 in
theorem isThere_any (v : Value) (l : List Nd) (id : Int) (w : World) (hv : NodesV w v l) (hz : DocSz l) :
    Calls Tryz.prog 77 #[v, .int .i64 id] w fun e w' => e = .returned (.bool (hasN l id)) ∧ Below w.heap.size w w' := by
  have HR := hide (right_any v l w hv hz)
  obtain ⟨p, c, rfl, hv⟩ := hv
  have hlen := hz.len
  clear hv hz
  unfold hasN
  by_cases h1 : 0 ≤ id
  · by_cases h2 : id < (l.length : Int)
    · rw [decide_eq_true ⟨h1, h2⟩, Bool.true_and]
      generalize rightB l = r at *
      go_enter Tryz.func77, Tryz.ntmps77
      go_wp2_with fail
      refine HR.out.mono ?_
      rintro e w1 ⟨rfl, b1⟩
      go_wp2_with fail
      go_ret
      exact ⟨rfl, b1⟩
    · rw [decide_eq_false (fun q => h2 q.2), Bool.false_and]
      have d : decide (id < (l.length : Int)) = false := decide_eq_false h2
      go_enter Tryz.func77, Tryz.ntmps77
      go_wp2_with fail
      go_ret
      exact ⟨rfl, Below.refl _ _⟩
  · rw [decide_eq_false (fun q => h1 q.1), Bool.false_and]
    go_enter Tryz.func77, Tryz.ntmps77
    go_wp2_with fail
    go_ret
    exact ⟨rfl, Below.refl _ _⟩
/-- What Order tells. -/
def ordL (l : List Nd) (id : Int) : List Int := if hasN l id = true then downF l l.length id else []
theorem down_few {l : List Nd} (h : Right l) {k : Int} (hk : inR l k) : (downF l l.length k).length ≤ 400 := by
  obtain ⟨d, g⟩ := right_dep h hk
  have := nodup_len l.length (downF l l.length k) (down_nodup (right_linked h) g) (fun x hx => down_range (right_sub h hk) hx)
  have := h.len
  omega
theorem has_is {l : List Nd} {id : Int} (h : hasN l id = true) : Right l ∧ inR l id := by
  unfold hasN at h
  rw [Bool.and_eq_true, decide_eq_true_eq] at h
  exact ⟨right_is.1 h.2, h.1⟩
set_option maxHeartbeats 1000000 in
theorem order_any (v : Value) (l : List Nd) (id : Int) (w : World) (hv : NodesV w v l) (hz : DocSz l) :
    Calls Tryz.prog 56 #[v, .int .i64 id] w fun e w' => ∃ v', e = .returned v' ∧ KidsO w.heap.size w' v' (ordL l id) ∧ Below w.heap.size w w' := by
  have HH := hide (isThere_any v l id w hv hz)
  have HV := hide hv
  clear hv hz
  cases q : hasN l id with
  | false =>
    rw [q] at HH
    have E : Hid (ordL l id = []) := by show _ = _; unfold ordL; rw [q]; rfl
    go_enter Tryz.func56, Tryz.ntmps56
    go_wp2_with fail
    refine HH.out.mono ?_
    rintro e w1 ⟨rfl, b1⟩
    go_wp2_with fail
    go_ret
    exact ⟨_, rfl, by rw [E.out]; exact World.ownsRow_nil _ _ _ _, b1⟩
  | true =>
    rw [q] at HH
    have E : Hid (ordL l id = downF l l.length id) := by show _ = _; unfold ordL; rw [q]; rfl
    obtain ⟨r1, r2⟩ := has_is q
    have HD := hide (fun W (hb : Below w.heap.size w W) => down_any w v l HV.out l.length id [] (.slice none 0 0) W hb (World.ownsRow_nil _ _ _ _) (right_sub r1 r2) (by have := down_few r1 r2; rw [List.length_nil]; omega))
    rw [List.nil_append] at HD
    clear q r1 r2
    go_enter Tryz.func56, Tryz.ntmps56
    go_wp2_with fail
    refine HH.out.mono ?_
    rintro e w1 ⟨rfl, b1⟩
    go_wp2_with fail
    refine (HD.out _ b1).mono ?_
    rintro e w2 ⟨v2, rfl, k2, b2⟩
    go_wp2_with fail
    go_ret
    exact ⟨_, rfl, by rw [E.out]; exact k2, b2⟩
/-- The place of a number. -/
def idxI (ks : List Int) (x : Int) : Option Nat := ks.findIdx? fun y => decide (y = x)
theorem idxI_hit {ks : List Int} {x : Int} {k : Nat} (h : k < ks.length) (hp : ks[k] = x) (hd : ∀ j (hj : j < ks.length), j < k → ¬ ks[j] = x) : idxI ks x = some k := by
  unfold idxI
  rw [List.findIdx?_eq_some_iff_getElem]
  exact ⟨h, decide_eq_true hp, fun j hj => by rw [decide_eq_false (hd j (by omega) hj)]; decide⟩
theorem idxI_miss {ks : List Int} {x : Int} (hd : ∀ j (hj : j < ks.length), ¬ ks[j] = x) : idxI ks x = none := by
  unfold idxI
  rw [List.findIdx?_eq_none_iff]
  intro y hy
  obtain ⟨j, hj, rfl⟩ := List.getElem_of_mem hy
  exact decide_eq_false (hd j hj)
theorem idxI_mem (ks : List Int) (x : Int) : (idxI ks x).isSome = decide (x ∈ ks) := by
  unfold idxI
  rw [List.findIdx?_isSome, Bool.eq_iff_iff, List.any_eq_true, decide_eq_true_eq]
  constructor
  · rintro ⟨y, h1, h2⟩
    rw [← of_decide_eq_true h2]; exact h1
  · exact fun h => ⟨x, h, decide_eq_true rfl⟩
set_option maxHeartbeats 2000000 in
theorem indexI_any (v : Value) (ks : List Int) (x : Int) (w : World) (hv : IntsV w v ks) (hl : ks.length ≤ 17592186044416) :
    Calls Tryz.prog 52 #[v, .int .i64 x] w fun e w' => e = .returned (.int .i64 (findV (idxI ks x))) ∧ w' = w := by
  obtain ⟨pp, c, rfl, hv⟩ := hv
  have HIT := hide (fun k h h1 h2 => idxI_hit (ks := ks) (x := x) (k := k) h h1 h2)
  have MISS := hide (fun h => idxI_miss (ks := ks) (x := x) h)
  generalize idxI ks x = R at *
  go_enter Tryz.func52, Tryz.ntmps52
  go_wp2_with fail
  go_loop [8] (fun iv => ∃ k : Nat, k ≤ ks.length ∧ iv = .int .i64 k ∧ Hid (∀ j (hj : j < ks.length), j < k → ¬ ks[j] = x)) (fun iv => ks.length - (intOf iv).toNat)
  case atStart => exact ⟨0, Nat.zero_le _, rfl, fun j _ q => by omega⟩
  case round =>
    obtain ⟨k, hk, rfl, hd⟩ := hrel
    by_cases h : k < ks.length
    · have i1 : (k : Int) < (ks.length : Int) := by omega
      rcases hv with hv | ⟨b, o, rfl, hv⟩
      · rw [hv] at h; simp at h
      have c0 := hv k h
      by_cases q : ks[k] = x
      · have E := hide (HIT.out k h q (fun j hj r => hd.out j hj r))
        rw [q] at c0
        clear HIT MISS hd hv q
        go_wp2_with fail
        go_ret
        exact ⟨by rw [E.out]; rfl, rfl⟩
      · have q2 : (x == ks[k]) = false := by rw [beq_eq_false_iff_ne]; exact fun r => q r.symm
        have E : Hid (∀ j (hj : j < ks.length), j < k + 1 → ¬ ks[j] = x) := fun j hj r => by
          rcases Nat.lt_or_ge j k with t | t
          · exact hd.out j hj t
          · obtain rfl : j = k := by omega
            exact q
        clear HIT MISS hd hv q
        generalize ks[k] = y at *
        go_wp2_with fail
        go_round
        case rel => exact ⟨k + 1, by omega, by go_num, E⟩
        case measure => simp [intOf]; omega
    · obtain rfl : k = ks.length := by omega
      have E := hide (MISS.out (fun j hj => hd.out j hj hj))
      clear HIT MISS hd hv h
      go_wp2_with fail
      go_ret
      exact ⟨by rw [E.out]; rfl, rfl⟩
theorem findV_pos (o : Option Nat) : decide (0 ≤ findV o) = o.isSome := by
  cases o with
  | none => rfl
  | some k => exact decide_eq_true (by show (0 : Int) ≤ (k : Int); omega)
set_option maxHeartbeats 1000000 in
theorem containsI_any (v : Value) (ks : List Int) (x : Int) (w : World) (hv : IntsV w v ks) (hl : ks.length ≤ 17592186044416) :
    Calls Tryz.prog 30 #[v, .int .i64 x] w fun e w' => e = .returned (.bool (decide (x ∈ ks))) ∧ w' = w := by
  have HI := hide (indexI_any v ks x w hv hl)
  have E := hide ((findV_pos (idxI ks x)).trans (idxI_mem ks x))
  generalize decide (x ∈ ks) = R at *
  generalize findV (idxI ks x) = z at *
  clear hv
  go_enter Tryz.func30, Tryz.ntmps30
  go_wp2_with fail
  refine HI.out.mono ?_
  rintro e w1 ⟨rfl, hw⟩
  obtain rfl : w = w1 := hw.symm
  go_wp2_with fail
  go_ret
  exact ⟨ret_bool E.out, rfl⟩

end Go.Proofs.YtldbaoolddlacaaGreatDoor
