/- The questions of kinds, of the document. The document's Attr, SameFiles, Same of layer 14. The document's List of layer 15. -/
import Derived.Test.YtnojgejcmaajmaaGreatDoorJsb10
import Derived.Shelf.Strconv.Clone
import Derived.Deep.MidRow
import Derived.Deep.DeepCutAuto
import Derived.OwnWalk

namespace Go.Proofs.YtnojgejcmaajmaaGreatDoor
open Go.RowKit
set_option maxHeartbeats 4000000 in
set_option maxRecDepth 100000 in
theorem refIs_5 (k : Int) (w : World) :
    Calls Tryz.prog 65 #[.int .i64 5, .int .i64 k] w fun e w' => e = .returned (.bool (fireB k)) ∧ w' = w := by
  rcases (show (k ≤ 0) ∨ (1 ≤ k ∧ k ≤ 18) ∨ (k = 19) ∨ (k = 20) ∨ (21 ≤ k ∧ k ≤ 22) ∨ (k = 23) ∨ (k = 24) ∨ (k = 25) ∨ (k = 26) ∨ (k = 27) ∨ (28 ≤ k) by omega) with q | q | q | q | q | q | q | q | q | q | q
  all_goals
    first | (have e1 : ¬ (1 ≤ k) := by omega) | (have e1 : 1 ≤ k := by omega)
    first | (have d1 : decide (1 ≤ k) = false := decide_eq_false e1) | (have d1 : decide (1 ≤ k) = true := decide_eq_true e1)
    first | (have e2 : k ≤ 22 := by omega) | (have e2 : ¬ (k ≤ 22) := by omega)
    first | (have d2 : decide (k ≤ 22) = true := decide_eq_true e2) | (have d2 : decide (k ≤ 22) = false := decide_eq_false e2)
    first | (have e3 : (k == 23) = false := by rw [beq_eq_false_iff_ne]; omega) | (have e3 : (k == 23) = true := by rw [beq_iff_eq]; omega)
    first | (have n3 : ¬ k = 23 := by omega) | (have n3 : (k != 23) = false := by unfold bne; rw [e3]; rfl)
    first | (have e4 : (k == 24) = false := by rw [beq_eq_false_iff_ne]; omega) | (have e4 : (k == 24) = true := by rw [beq_iff_eq]; omega)
    first | (have n4 : ¬ k = 24 := by omega) | (have n4 : (k != 24) = false := by unfold bne; rw [e4]; rfl)
    first | (have e5 : (k == 25) = false := by rw [beq_eq_false_iff_ne]; omega) | (have e5 : (k == 25) = true := by rw [beq_iff_eq]; omega)
    first | (have n5 : ¬ k = 25 := by omega) | (have n5 : (k != 25) = false := by unfold bne; rw [e5]; rfl)
    first | (have e6 : (k == 26) = false := by rw [beq_eq_false_iff_ne]; omega) | (have e6 : (k == 26) = true := by rw [beq_iff_eq]; omega)
    first | (have n6 : ¬ k = 26 := by omega) | (have n6 : (k != 26) = false := by unfold bne; rw [e6]; rfl)
    first | (have e7 : (k == 27) = false := by rw [beq_eq_false_iff_ne]; omega) | (have e7 : (k == 27) = true := by rw [beq_iff_eq]; omega)
    first | (have n7 : ¬ k = 27 := by omega) | (have n7 : (k != 27) = false := by unfold bne; rw [e7]; rfl)
    first | (have e8 : (k == 19) = false := by rw [beq_eq_false_iff_ne]; omega) | (have e8 : (k == 19) = true := by rw [beq_iff_eq]; omega)
    first | (have n8 : ¬ k = 19 := by omega) | (have n8 : (k != 19) = false := by unfold bne; rw [e8]; rfl)
    first | (have e9 : (k == 20) = false := by rw [beq_eq_false_iff_ne]; omega) | (have e9 : (k == 20) = true := by rw [beq_iff_eq]; omega)
    first | (have n9 : ¬ k = 20 := by omega) | (have n9 : (k != 20) = false := by unfold bne; rw [e9]; rfl)
    first | (have E := hide (show fireB k = false from decide_eq_false (by omega))) | (have E := hide (show fireB k = true from decide_eq_true (by omega)))
    clear q
    go_enter Tryz.func65, Tryz.ntmps65
    go_wp2_with fail
    go_ret
    exact ⟨ret_bool E.out.symm, rfl⟩
end Go.Proofs.YtnojgejcmaajmaaGreatDoor

namespace Go.Proofs.YtnojgejcmaajmaaGreatDoor
open Go.RowKit
set_option maxRecDepth 100000
theorem ret_fndA {a b : ByteArray} {c d : Bool} (h : a = b) (g : c = d) : Ending.returned (.tuple #[.string a, .bool c]) = .returned (.tuple #[.string b, .bool d]) := by rw [h, g]
set_option maxHeartbeats 4000000 in
set_option maxRecDepth 100000 in
theorem refAttrS_any (v : Value) (ax : List (ByteArray × ByteArray)) (name : ByteArray) (w : World) (hv : AttrsV w v ax) (hl : ax.length ≤ 4398046511104) :
    Calls Tryz.prog 88 #[v, .string name] w fun e w' => e = .returned (.tuple #[.string (fndS ax name), .bool (findA ax name).isSome]) ∧ w' = w := by
  have HF := hide (refFind_any v ax name w hv hl)
  obtain ⟨p, c, rfl, hv⟩ := hv
  cases hf : findA ax name with
  | none =>
    have E := hide (fnd_miss hf)
    rw [hf, show findV none = -1 from rfl] at HF
    clear hf hv hl
    go_enter Tryz.func88, Tryz.ntmps88
    go_wp2_with fail
    refine HF.out.mono ?_
    rintro e u ⟨rfl, hu⟩
    obtain rfl : w = u := hu.symm
    go_wp2_with fail
    go_ret2
    exact ⟨ret_fndA E.out.1.symm rfl, rfl⟩
  | some i =>
    obtain ⟨hi, _, _⟩ := List.findIdx?_eq_some_iff_getElem.1 (show ax.findIdx? (isN name) = some i from hf)
    have E := hide (fnd_hit hi hf)
    rw [hf, show findV (some i) = (i : Int) from rfl] at HF
    obtain ⟨b, o, rfl, hv2⟩ : ∃ b o, p = some ⟨b, o, none⟩ ∧ ∀ i (h : i < ax.length), w.cell? ⟨b, o + i * 2, none⟩ = some (.string ax[i].1) ∧ w.cell? ⟨b, o + i * 2 + 1, none⟩ = some (.string ax[i].2) := by
      rcases hv with t | t
      · rw [t] at hi; simp at hi
      · exact t
    have c1 := (hv2 i hi).2
    have i0 : (0 : Int) ≤ (i : Int) := by omega
    have i1 : (i : Int) < (ax.length : Int) := by omega
    have i2 : ¬ (i : Int) < 0 := by omega
    generalize ax[i].2 = t at *
    clear hf hv hv2 hl
    go_enter Tryz.func88, Tryz.ntmps88
    go_wp2_with fail
    refine HF.out.mono ?_
    rintro e u ⟨rfl, hu⟩
    obtain rfl : w = u := hu.symm
    go_wp2_with fail
    go_ret2
    exact ⟨ret_fndA E.out.1.symm rfl, rfl⟩
end Go.Proofs.YtnojgejcmaajmaaGreatDoor

namespace Go.Proofs.YtnojgejcmaajmaaGreatDoor
open Go.RowKit
set_option maxRecDepth 100000
theorem filt_no {p : Int → Bool} {xs : List Int} {k : Nat} (h : k < xs.length) (hp : p xs[k] = false) : (xs.take (k + 1)).filter p = (xs.take k).filter p := by
  rw [List.take_succ_eq_append_getElem h, List.filter_append, List.filter_cons_of_neg (by rw [hp]; decide), List.filter_nil, List.append_nil]
theorem filt_yes {p : Int → Bool} {xs : List Int} {k : Nat} (h : k < xs.length) (hp : p xs[k] = true) : (xs.take (k + 1)).filter p = (xs.take k).filter p ++ [xs[k]] := by
  rw [List.take_succ_eq_append_getElem h, List.filter_append, List.filter_cons_of_pos hp, List.filter_nil]
theorem order_few {l : List Nd} (h : Right l) {m : Nat} (hm : m < l.length) : (orderP l (m : Int)).length ≤ 400 := by
  have h1 := nodup_len l.length _ (order_nodup h (id := (m : Int)) (by omega) (by omega)) (fun x hx => by
    have := (order_mem h (by omega) (by omega) x).1 hx
    exact ⟨this.1, this.2.1⟩)
  have := h.len
  omega

end Go.Proofs.YtnojgejcmaajmaaGreatDoor
