/- The program's Collapse answers by a function of lists of bytes; it changes nothing that was there. Condition: texts of at most 2^40 bytes. -/
import Derived.Test.YtgfbcooeilodmaaDoorStripWalks
import Derived.Test.YtgfbcooeilodmaaDoorCollapse
import Derived.Test.YtgfbcooeilodmaaDoorBByte
import Derived.Test.YtgfbcooeilodmaaDoorBString
import Derived.Shelf.Small.Strs
namespace Go.Proofs.YtgfbcooeilodmaaDoor
open Go.Shelf Go.RowKit

def iren : Go.Shelf.Ren := ⟨fun | 137 => 33 | 217 => 39 | 266 => 44 | n => n, fun | 3 => 3 | 5 => 5 | 9 => 9 | 72 => 32 | n => n, fun  | n => n⟩
theorem lays137 : Go.Proofs.Lays.n137 Tryd.prog iren := {
  mixed := by kernel_rfl
  f137 := Tryd.func33.trans (congrArg some (by kernel_rfl))
  f217 := Tryd.func39.trans (congrArg some (by kernel_rfl))
  f266 := Tryd.func44.trans (congrArg some (by kernel_rfl))
  t3 := Tryd.underlying3
  a3 := Tryd.isAgg3
  z3 := Tryd.sizeOf3
  v3 := Tryd.zeroValue3
  t5 := Tryd.underlying5
  a5 := Tryd.isAgg5
  z5 := Tryd.sizeOf5
  v5 := Tryd.zeroValue5
  t9 := Tryd.underlying9
  a9 := Tryd.isAgg9
  z9 := Tryd.sizeOf9
  v9 := Tryd.zeroValue9 }

theorem index_mem (c : UInt8) : ∀ l : List UInt8, 0 ≤ Lib.indexByte l c ↔ l.contains c = true
  | [] => by simp [Lib.indexByte]
  | b :: l => by
    have ih := index_mem c l
    have ge := Lib.indexByte_ge l c
    unfold Lib.indexByte
    by_cases h : b = c
    · subst h; simp
    · have h1 : (b == c) = false := by simpa using h
      have h2 : (c == b) = false := by simpa using fun e => h e.symm
      rw [h1, List.contains_cons, h2, Bool.false_or]
      by_cases g : Lib.indexByte l c = -1
      · rw [g] at ih ⊢; simp at ih ⊢; exact ih
      · have g1 : (Lib.indexByte l c == -1) = false := by simpa using g
        rw [g1, ← ih]; simp; omega
theorem index_bl (c : UInt8) : decide (0 ≤ Lib.indexByte [9, 10, 12, 13, 32] c) = isBl c := by
  have := index_mem c [9, 10, 12, 13, 32]
  unfold isBl blanks
  cases h : ([9, 10, 12, 13, 32] : List UInt8).contains c with
  | true => rw [h] at this; exact decide_eq_true (this.2 rfl)
  | false => rw [h] at this; exact decide_eq_false (fun x => by have := this.1 x; cases this)

set_option maxHeartbeats 400000 in
theorem isBlank_any (c : UInt8) (w : World) :
    Calls Tryd.prog 20 #[.int .u8 (c.toNat : Int)] w fun e w' => e = .returned (.bool (isBl c)) ∧ w' = w := by
  have hI : Calls Tryd.prog 33 #[.string ⟨#[9, 10, 12, 13, 32]⟩, .int .u8 (c.toNat : Int)] w fun e w' => e = .returned (.int .i64 (Lib.indexByte [9, 10, 12, 13, 32] c)) ∧ w' = w := by
    have := Any.strings_IndexByte lays137 ⟨#[9, 10, 12, 13, 32]⟩ (c.toNat : Int) w
    have e : ((c.toNat : Int)).toNat.toUInt8 = c := by simp
    rw [e] at this; exact this
  have HI := hide hI
  clear hI
  rw [← index_bl c]
  go_enter Tryd.func20, Tryd.ntmps20
  go_wp2_with fail
  refine HI.out.mono ?_
  rintro e w1 ⟨rfl, rfl⟩
  go_wp2_with fail
  go_ret
  exact ⟨rfl, rfl⟩

set_option maxHeartbeats 1000000 in
theorem collapse_raw (s : ByteArray) (w : World) (hs : s.size ≤ 1099511627776) :
    Calls Tryd.prog 13 #[.string s] w fun e w' => e = .returned (.string (txt (colP 32 (stripS s).data.toList))) ∧ Below w.heap.size w w' := by
  have hS := fun w => strip_any s w (by omega)
  have he : Ends (stripS s).data.toList := stripL_ends s.data.toList
  have hz := stripS_size s
  generalize stripS s = t at *
  have HS := hide hS
  clear hS
  go_enter Tryd.func13, Tryd.ntmps13
  go_wp2_with fail
  refine (HS.out _).mono ?_
  rintro e w1 ⟨rfl, b1⟩
  have h0 := (HoldsB.fresh w).below b1
  have b0 : Below w.heap.size w w1 := ((Below.refl _ w).alloc (Nat.le_refl _) _).trans (b1.mono (by simp))
  go_wp2_with fail
  go_loopw [11] (fun i wr => ∃ k : Nat, k ≤ t.size ∧ i = .int .i64 k ∧ HoldsB w.heap.size w.heap.size (colP 32 (t.data.toList.take k)) wr ∧ Below w.heap.size w wr) (fun i _ => t.size - (intOf i).toNat)
  case atStart => exact ⟨0, Nat.zero_le _, rfl, h0, b0⟩
  case round =>
    obtain ⟨k, hk, rfl, hh, hb⟩ := hrel
    by_cases hlt : k < t.size
    · have hle := colP_take_le t k
      have HT := hide (colP_take t k hlt)
      have hsz := hb.size
      have HE := hide (byteAt_eq t k hlt)
      cases hc : isBl t[k] with
      | false =>
        have HP := hide (cpiece_no (p := prevAt32 t k) (show isBl (byteAt t k) = false by rw [← HE.out]; exact hc))
        go_wp2_with fail
        refine (isBlank_any t[k] _).mono ?_
        rintro e w2 ⟨rfl, rfl⟩
        go_wp2_with fail
        refine (writeByte _ _ _ t[k] _ hh (by omega) hb.size).mono ?_
        rintro e w3 ⟨rfl, h3, b3⟩
        go_wp2_with fail
        go_roundw
        case rel => exact ⟨k + 1, by omega, by go_num, by rw [HT.out, HP.out, ← HE.out]; exact h3, hb.trans b3⟩
        case measure => simp [intOf]; omega
      | true =>
        have h0k : 0 < k := first_no t k he hlt hc
        have hk1 : k - 1 < t.size := by omega
        have hz1 : ((k : Int) - 1).toNat = k - 1 := by omega
        have HQ := hide (prev32_eq t k h0k hk1)
        cases hp : isBl (t[k - 1]'hk1) with
        | false =>
          have HP := hide (cpiece_one (p := prevAt32 t k) (show isBl (byteAt t k) = true by rw [← HE.out]; exact hc) (by rw [← HQ.out]; exact hp))
          go_wp2_with fail
          refine (isBlank_any t[k] _).mono ?_
          rintro e w2 ⟨rfl, rfl⟩
          go_wp2_with fail
          refine (isBlank_any (t[k - 1]'hk1) _).mono ?_
          rintro e w3 ⟨rfl, rfl⟩
          go_wp2_with fail
          refine (writeByte _ _ _ 32 _ hh (by omega) hb.size).mono ?_
          rintro e w4 ⟨rfl, h4, b4⟩
          go_wp2_with fail
          go_roundw
          case rel => exact ⟨k + 1, by omega, by go_num, by rw [HT.out, HP.out]; exact h4, hb.trans b4⟩
          case measure => simp [intOf]; omega
        | true =>
          have HP := hide (cpiece_nil (p := prevAt32 t k) (show isBl (byteAt t k) = true by rw [← HE.out]; exact hc) (by rw [← HQ.out]; exact hp))
          go_wp2_with fail
          refine (isBlank_any t[k] _).mono ?_
          rintro e w2 ⟨rfl, rfl⟩
          go_wp2_with fail
          refine (isBlank_any (t[k - 1]'hk1) _).mono ?_
          rintro e w3 ⟨rfl, rfl⟩
          go_wp2_with fail
          go_roundw
          case rel => exact ⟨k + 1, by omega, by go_num, by rw [HT.out, HP.out, List.append_nil]; exact hh, hb⟩
          case measure => simp [intOf]; omega
    · obtain rfl : k = t.size := by omega
      rw [take_all32] at hh
      go_wp2_with fail
      refine (builderText _ _ _ _ hh hb.size).mono ?_
      rintro r w2 ⟨rfl, b2⟩
      go_wp2_with fail
      go_ret
      exact ⟨rfl, hb.trans b2⟩

theorem collapse_any (s : ByteArray) (w : World) (hs : s.size ≤ 1099511627776) :
    Calls Tryd.prog 13 #[.string s] w fun e w' => e = .returned (.string (collapseS s)) ∧ Below w.heap.size w w' := by
  have e : txt (colP 32 (stripS s).data.toList) = collapseS s := congrArg txt (colP_strip s.data.toList 32)
  rw [← e]; exact collapse_raw s w hs

end Go.Proofs.YtgfbcooeilodmaaDoor
