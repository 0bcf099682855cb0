/- The document's in, named, behind of layer 9: they answer by the functions of 'PatP', 'PatM'; the world is as it was. Condition: the pattern's signs lie in a row of numbers. -/
import Derived.Test.YtncljgpcloanfaaDoorRows
import Derived.Test.YtncljgpcloanfaaDoorLow
import Derived.Test.YtncljgpcloanfaaDoorQatM
namespace Go.Proofs.YtncljgpcloanfaaDoor
open Go.RowKit

/-- A row of numbers of signs in block g. -/
structure Ints (w : World) (g : Nat) (l : List Nat) : Prop where
  lt : g < w.heap.size
  cells : ∀ i (h : i < l.length), w.cell? ⟨g, i, none⟩ = some (.int .i64 (l[i] : Nat))
  small : ∀ c ∈ l, c ≤ 1114111
  len : l.length ≤ 65536
theorem Ints.below {w w' : World} {g : Nat} {l : List Nat} (h : Ints w g l) (hb : Below w.heap.size w w') : Ints w' g l :=
  ⟨by have := hb.size; have := h.lt; omega, fun i hi => (hb.cell (p := ⟨g, i, none⟩) h.lt).trans (h.cells i hi), h.small, h.len⟩
def rowV (g cap : Nat) (l : List Nat) : Value := .slice (some ⟨g, 0, none⟩) l.length cap
def nums (s : ByteArray) : List Nat := s.data.toList.map (·.toNat)
theorem nat_beq (a b : Nat) : ((a : Int) == (b : Int)) = (a == b) := by
  rw [Bool.eq_iff_iff, beq_iff_eq, beq_iff_eq]; omega
theorem nat_bne (a b : Nat) : ((a : Int) != (b : Int)) = !(a == b) := by unfold bne; rw [nat_beq]
theorem in_hit {s : ByteArray} {c k : Nat} (hk : k < s.size) (e : s[k].toNat = c) : inN (nums s) c = true := by
  unfold inN nums
  rw [List.contains_iff_mem, ← e]
  refine List.mem_map.2 ⟨s[k], ?_, rfl⟩
  have e2 : s[k] = s.data.toList[k]'(by simpa using hk) := by simp; rfl
  rw [e2]; exact List.getElem_mem _
theorem in_none {s : ByteArray} {c : Nat} (h : ∀ k (_ : k < s.size), ¬ s[k].toNat = c) : inN (nums s) c = false := by
  cases g : inN (nums s) c with
  | false => rfl
  | true =>
    exfalso
    unfold inN nums at g
    rw [List.contains_iff_mem] at g
    obtain ⟨x, hx, e⟩ := List.mem_map.1 g
    obtain ⟨k, hk, e2⟩ := List.getElem_of_mem hx
    have hk2 : k < s.size := by simpa using hk
    refine h k hk2 ?_
    have e3 : s[k] = s.data.toList[k]'hk := by simp; rfl
    rw [e3, e2]; exact e
set_option maxHeartbeats 1000000 in
set_option maxRecDepth 100000 in
theorem refInN_any (c : Nat) (s : ByteArray) (w : World) (hs : s.size ≤ 1048576) :
    Calls Tryd.prog 48 #[.int .i64 (c : Int), .string s] w fun e w' => e = .returned (.bool (inN (nums s) c)) ∧ w' = w := by
  have HIT := hide (fun k hk e => in_hit (s := s) (c := c) (k := k) hk e)
  have END := hide (fun h => in_none (s := s) (c := c) h)
  go_enter Tryd.func48, Tryd.ntmps48
  go_wp2_with fail
  go_loop [5] (fun i => ∃ k : Nat, k ≤ s.size ∧ i = .int .i64 k ∧ Hid (∀ j (_ : j < s.size), j < k → ¬ s[j].toNat = c)) (fun i => s.size - (intOf i).toNat)
  case atStart => exact ⟨0, Nat.zero_le _, rfl, fun j _ h => by omega⟩
  case round =>
    obtain ⟨k, hk, rfl, hd⟩ := hrel
    by_cases hlt : k < s.size
    · have i1 : (k : Int) < (s.size : Int) := by omega
      have h255 : (s[k].toNat : Int) ≤ 255 := by have := s[k].toNat_lt; omega
      by_cases hc : s[k].toNat = c
      · have E := hide (HIT.out k hlt hc)
        have i3 : ((s[k].toNat : Int) == (c : Int)) = true := by rw [hc]; simp
        clear hd hc HIT END
        go_wp2_with fail
        go_ret
        exact ⟨ret_bool E.out.symm, rfl⟩
      · have i3 : ((s[k].toNat : Int) == (c : Int)) = false := by rw [beq_eq_false_iff_ne]; omega
        have hd' : Hid (∀ j (_ : j < s.size), j < k + 1 → ¬ s[j].toNat = c) := by
          intro j hj hjk
          rcases Nat.lt_or_ge j k with q | q
          · exact hd.out j hj q
          · obtain rfl : j = k := by omega
            exact hc
        clear hd hc HIT END
        go_wp2_with fail
        go_round
        case rel => exact ⟨k + 1, by omega, by go_num, hd'⟩
        case measure => simp [intOf]; omega
    · obtain rfl : k = s.size := by omega
      have E := hide (END.out (fun j hj => hd.out j hj hj))
      clear hd HIT END
      go_wp2_with fail
      go_ret
      exact ⟨ret_bool E.out.symm, rfl⟩

theorem named_d (c : Nat) : namedN 100 c = isDN c := rfl
theorem named_w (c : Nat) : namedN 119 c = wordN c := rfl
theorem named_s {k : Nat} (h1 : ¬ k = 100) (h2 : ¬ k = 119) (c : Nat) : namedN k c = blankN c := by unfold namedN; rw [if_neg h1, if_neg h2]
set_option maxHeartbeats 1000000 in
theorem refNamed_any (k c : Nat) (w : World) :
    Calls Tryd.prog 58 #[.int .i64 (k : Int), .int .i64 (c : Int)] w fun e w' => e = .returned (.bool (namedN k c)) ∧ w' = w := by
  have hdc : (isDN c = true ∧ 48 ≤ (c : Int) ∧ (c : Int) ≤ 57) ∨ (isDN c = false ∧ (c : Int) < 48) ∨ (isDN c = false ∧ 48 ≤ (c : Int) ∧ 57 < (c : Int)) := by
    unfold isDN
    rcases (show c < 48 ∨ (48 ≤ c ∧ c ≤ 57) ∨ (48 ≤ c ∧ 57 < c) by omega) with h | h | h
    · exact .inr (.inl ⟨decide_eq_false (by omega), by omega⟩)
    · exact .inl ⟨decide_eq_true h, by omega, by omega⟩
    · exact .inr (.inr ⟨decide_eq_false (by omega), by omega, by omega⟩)
  by_cases k1 : k = 100
  · subst k1
    rw [named_d]
    have kk : (((100 : Nat) : Int) == 100) = true := rfl
    rcases hdc with ⟨e, h1, h2⟩ | ⟨e, h1⟩ | ⟨e, h1, h2⟩
    all_goals
      rw [e]
      clear e
      generalize (c : Int) = ci at *
      go_enter Tryd.func58, Tryd.ntmps58
      go_wp2_with fail
      go_ret
      first | exact ⟨rfl, rfl⟩ | exact ⟨ret_bool (by simp; omega), rfl⟩
  · have kf : ((k : Int) == 100) = false := by rw [beq_eq_false_iff_ne]; omega
    by_cases k2 : k = 119
    · subst k2
      rw [named_w]
      have E : wordN c = (isDN c || (decide (97 ≤ c ∧ c ≤ 122) || (decide (65 ≤ c ∧ c ≤ 90) || c == 95))) := rfl
      rcases hdc with ⟨e, h1, h2⟩ | ⟨e, h1⟩ | ⟨e, h1, h2⟩
      · rw [E, e, Bool.true_or]
        clear e E
        generalize (c : Int) = ci at *
        go_enter Tryd.func58, Tryd.ntmps58
        go_wp2_with fail
        go_ret
        first | exact ⟨rfl, rfl⟩ | exact ⟨ret_bool (by simp; omega), rfl⟩
      · rw [E, e, decide_eq_false (by omega), decide_eq_false (by omega), show (c == 95) = false by rw [beq_eq_false_iff_ne]; omega]
        have x1 : ¬ 97 ≤ (c : Int) := by omega
        have x2 : ¬ 65 ≤ (c : Int) := by omega
        have x3 : ((c : Int) == 95) = false := by rw [beq_eq_false_iff_ne]; omega
        clear e E
        generalize (c : Int) = ci at *
        go_enter Tryd.func58, Tryd.ntmps58
        go_wp2_with fail
        go_ret
        first | exact ⟨rfl, rfl⟩ | exact ⟨ret_bool (by simp; omega), rfl⟩
      · rw [E, e, Bool.false_or]
        rcases (show (97 ≤ c ∧ c ≤ 122) ∨ (122 < c) ∨ (65 ≤ c ∧ c ≤ 90) ∨ (c < 65) ∨ (90 < c ∧ c < 97) by omega) with g | g | g | g | g
        · rw [decide_eq_true g, Bool.true_or]
          have x1 : 97 ≤ (c : Int) := by omega
          have x2 : (c : Int) ≤ 122 := by omega
          clear e E g
          generalize (c : Int) = ci at *
          go_enter Tryd.func58, Tryd.ntmps58
          go_wp2_with fail
          go_ret
          first | exact ⟨rfl, rfl⟩ | exact ⟨ret_bool (by simp; omega), rfl⟩
        · rw [decide_eq_false (by omega), decide_eq_false (by omega), show (c == 95) = false by rw [beq_eq_false_iff_ne]; omega]
          have x1 : 122 < (c : Int) := by omega
          have x3 : ((c : Int) == 95) = false := by rw [beq_eq_false_iff_ne]; omega
          clear e E g
          generalize (c : Int) = ci at *
          go_enter Tryd.func58, Tryd.ntmps58
          go_wp2_with fail
          go_ret
          first | exact ⟨rfl, rfl⟩ | exact ⟨ret_bool (by simp; omega), rfl⟩
        · rw [decide_eq_false (by omega), decide_eq_true (by omega)]
          have x1 : 65 ≤ (c : Int) := by omega
          have x2 : (c : Int) ≤ 90 := by omega
          clear e E g
          generalize (c : Int) = ci at *
          go_enter Tryd.func58, Tryd.ntmps58
          go_wp2_with fail
          go_ret
          first | exact ⟨rfl, rfl⟩ | exact ⟨ret_bool (by simp; omega), rfl⟩
        · rw [decide_eq_false (by omega), decide_eq_false (by omega), show (c == 95) = false by rw [beq_eq_false_iff_ne]; omega]
          have x1 : (c : Int) < 65 := by omega
          have x3 : ((c : Int) == 95) = false := by rw [beq_eq_false_iff_ne]; omega
          clear e E g
          generalize (c : Int) = ci at *
          go_enter Tryd.func58, Tryd.ntmps58
          go_wp2_with fail
          go_ret
          first | exact ⟨rfl, rfl⟩ | exact ⟨ret_bool (by simp; omega), rfl⟩
        · rw [decide_eq_false (by omega), decide_eq_false (by omega), Bool.false_or, Bool.false_or]
          have x1 : (c : Int) < 97 := by omega
          have x2 : 90 < (c : Int) := by omega
          have x3 := nat_beq c 95
          generalize (c == 95) = y at *
          clear e E g
          generalize (c : Int) = ci at *
          go_enter Tryd.func58, Tryd.ntmps58
          go_wp2_with fail
          go_ret
          first | exact ⟨ret_bool x3, rfl⟩ | exact ⟨ret_bool (by rw [← x3]; simp; omega), rfl⟩
    · have kf2 : ((k : Int) == 119) = false := by rw [beq_eq_false_iff_ne]; omega
      rw [named_s k1 k2]
      have E : blankN c = (((c : Int) == 9) || (((c : Int) == 10) || (((c : Int) == 12) || (((c : Int) == 13) || ((c : Int) == 32))))) := by
        have e9 : ((c : Int) == 9) = (c == 9) := nat_beq c 9
        have e10 : ((c : Int) == 10) = (c == 10) := nat_beq c 10
        have e12 : ((c : Int) == 12) = (c == 12) := nat_beq c 12
        have e13 : ((c : Int) == 13) = (c == 13) := nat_beq c 13
        have e32 : ((c : Int) == 32) = (c == 32) := nat_beq c 32
        rw [e9, e10, e12, e13, e32]; rfl
      clear k1 k2
      have HG : ∀ d : Bool, decide ((48 : Int) ≤ (c : Int)) = d → True := fun _ _ => trivial
      clear HG
      rw [E]
      clear E
      rcases hdc with ⟨e, h1, h2⟩ | ⟨e, h1⟩ | ⟨e, h1, h2⟩
      all_goals
        clear e
        generalize (c : Int) = ci at *
        generalize (k : Int) = ki at *
        cases q9 : (ci == 9) with
        | true =>
          rw [Bool.true_or]
          go_enter Tryd.func58, Tryd.ntmps58
          go_wp2_with fail
          go_ret
          first | exact ⟨rfl, rfl⟩ | exact ⟨ret_bool (by simp; omega), rfl⟩
        | false =>
          cases q10 : (ci == 10) with
          | true =>
            rw [Bool.false_or, Bool.true_or]
            go_enter Tryd.func58, Tryd.ntmps58
            go_wp2_with fail
            go_ret
            first | exact ⟨rfl, rfl⟩ | exact ⟨ret_bool (by simp; omega), rfl⟩
          | false =>
            cases q12 : (ci == 12) with
            | true =>
              rw [Bool.false_or, Bool.false_or, Bool.true_or]
              go_enter Tryd.func58, Tryd.ntmps58
              go_wp2_with fail
              go_ret
              first | exact ⟨rfl, rfl⟩ | exact ⟨ret_bool (by simp; omega), rfl⟩
            | false =>
              cases q13 : (ci == 13) with
              | true =>
                rw [Bool.false_or, Bool.false_or, Bool.false_or, Bool.true_or]
                go_enter Tryd.func58, Tryd.ntmps58
                go_wp2_with fail
                go_ret
                first | exact ⟨rfl, rfl⟩ | exact ⟨ret_bool (by simp; omega), rfl⟩
              | false =>
                rw [Bool.false_or, Bool.false_or, Bool.false_or, Bool.false_or]
                go_enter Tryd.func58, Tryd.ntmps58
                go_wp2_with fail
                go_ret
                first | exact ⟨rfl, rfl⟩ | exact ⟨ret_bool (by simp; omega), rfl⟩

end Go.Proofs.YtncljgpcloanfaaDoor
