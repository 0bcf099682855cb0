/- What Grow does to a fresh strings.Builder that the call has made itself. The program's NoBreaks answers by the function of 'Ends'. -/
import Derived.Test.YtfjfkkbgkjmghaaGreatDoorJct7
import Derived.Test.YtfjfkkbgkjmghaaGreatDoorJct18
import Derived.Shelf.Strings.Builder2

namespace Go.Proofs.YtfjfkkbgkjmghaaGreatDoor
open Go.Shelf Go.RowKit
set_option maxRecDepth 100000
def renBGrow : Go.Shelf.Ren := ⟨fun | 165 => 106 | 240 => 136 | 241 => 137 | 276 => 173 | 277 => 174 | n => n, fun | 0 => 0 | 3 => 3 | 4 => 4 | 5 => 5 | 9 => 9 | 20 => 20 | 37 => 87 | 70 => 106 | 72 => 108 | 164 => 164 | n => n, fun  | n => n⟩
theorem lays165 : Go.Proofs.Lays.n165 Tryz.prog renBGrow := {
  mixed := by kernel_rfl
  f165 := Tryz.func106.trans (congrArg some (by kernel_rfl))
  f240 := Tryz.func136.trans (congrArg some (by kernel_rfl))
  f241 := Tryz.func137.trans (congrArg some (by kernel_rfl))
  f276 := Tryz.func173.trans (congrArg some (by kernel_rfl))
  f277 := Tryz.func174.trans (congrArg some (by kernel_rfl))
  t0 := Tryz.underlying0
  a0 := Tryz.isAgg0
  z0 := Tryz.sizeOf0
  v0 := Tryz.zeroValue0
  t3 := Tryz.underlying3
  a3 := Tryz.isAgg3
  z3 := Tryz.sizeOf3
  v3 := Tryz.zeroValue3
  t4 := Tryz.underlying4
  a4 := Tryz.isAgg4
  z4 := Tryz.sizeOf4
  v4 := Tryz.zeroValue4
  t9 := Tryz.underlying9
  a9 := Tryz.isAgg9
  z9 := Tryz.sizeOf9
  v9 := Tryz.zeroValue9
  t20 := Tryz.underlying20
  a20 := Tryz.isAgg20
  z20 := Tryz.sizeOf20
  v20 := Tryz.zeroValue20
  t37 := Tryz.underlying87
  a37 := Tryz.isAgg87
  z37 := Tryz.sizeOf87
  v37 := Tryz.zeroValue87
  t70 := Tryz.underlying106
  a70 := Tryz.isAgg106
  z70 := Tryz.sizeOf106
  v70 := Tryz.zeroValue106
  t72 := Tryz.underlying108
  a72 := Tryz.isAgg108
  z72 := Tryz.sizeOf108
  v72 := Tryz.zeroValue108
  t164 := Tryz.underlying164
  a164 := Tryz.isAgg164
  z164 := Tryz.sizeOf164
  v164 := Tryz.zeroValue164 }
theorem extraBGrow : Builder.Extra Tryz.prog renBGrow := {
  sizeBuilder := by kernel_rfl
  liesBuilder := by kernel_rfl
  t5 := Tryz.underlying5
  a5 := Tryz.isAgg5
  z5 := Tryz.sizeOf5
  v5 := Tryz.zeroValue5
  infoByte := by kernel_rfl
  cellsByte := by kernel_rfl
  sizeByte := by kernel_rfl
  neB5 := by decide }
theorem grow_fresh (n : Nat) (w : World) (hn : n ≤ 281474976710656) :
    Calls Tryz.prog 106 #[.pointer (some ⟨w.heap.size, 0, none⟩), .int .i64 n] (w.alloc (.cells #[.pointer none, .slice none 0 0] 108)) fun e w' => e = .returned (.tuple #[]) ∧ HoldsB w.heap.size w.heap.size [] w' ∧ Below w.heap.size w w' := by
  refine (Any.Builder_Grow_fresh lays165 extraBGrow w.heap.size w.heap.size n (w.alloc (.cells #[.pointer none, .slice none 0 0] 108)) (Nat.le_refl _) (by simp [World.alloc, -World.alloc_eq]; rfl) (by simp) hn).mono ?_
  rintro e w' ⟨rfl, h, hb⟩
  exact ⟨rfl, .inr h, ((Below.refl _ w).alloc (Nat.le_refl _) _).trans hb⟩
end Go.Proofs.YtfjfkkbgkjmghaaGreatDoor

namespace Go.Proofs.YtfjfkkbgkjmghaaGreatDoor
open Go.RowKit
set_option maxRecDepth 100000
set_option maxHeartbeats 400000 in
theorem withEnds_any (s e : ByteArray) (w : World) (hs : s.size ≤ 1099511627776) (he : e.size ≤ 2) :
    Calls Tryz.prog 81 #[.string s, .string e] w fun r w' => r = .returned (.string (endsS e s)) ∧ Below w.heap.size w w' := by
  go_enter Tryz.func81, Tryz.ntmps81
  go_wp2_with fail
  refine (grow_fresh s.size w (by omega)).mono ?_
  rintro r w1 ⟨rfl, h1, b1⟩
  go_wp2_with fail
  go_loopw [13] (fun i wr => ∃ k : Nat, k ≤ s.size ∧ i = .int .i64 k ∧ HoldsB w.heap.size w.heap.size (endsP e.data.toList 0 (s.data.toList.take k)) wr ∧ Below w.heap.size w wr) (fun i _ => s.size - (intOf i).toNat)
  case atStart => exact ⟨0, Nat.zero_le _, rfl, h1, b1⟩
  case round =>
    obtain ⟨k, hk, rfl, hh, hb⟩ := hrel
    by_cases hlt : k < s.size
    · have hle := endsP_take_le e s k he
      have HT := hide (endsP_take e.data.toList s k hlt)
      have hsz := hb.size
      have HE := hide (byteAt_eq s k hlt)
      go_wp2_with fail
      · have h10 : (s[k].toNat : Int) = 10 := by assumption
        have h0 : 0 < k := by assumption
        have h13 : ((((s[k - 1]'(by omega)).toNat : Int)) == 13) = true := by assumption
        rw [HE.out] at h10
        rw [prevAt_eq s k hlt h0, beq_iff_eq] at h13
        go_roundw
        case rel => exact ⟨k + 1, by omega, by go_num, by rw [HT.out, piece_none ((b10 _).2 h10) ((b13 _).2 h13), List.append_nil]; exact hh, hb⟩
        case measure => simp [intOf]; omega
      · have h10 : (s[k].toNat : Int) = 10 := by assumption
        have h0 : 0 < k := by assumption
        have h13 : ((((s[k - 1]'(by omega)).toNat : Int)) == 13) = false := by assumption
        rw [HE.out] at h10
        rw [prevAt_eq s k hlt h0, beq_eq_false_iff_ne] at h13
        have HP := hide (piece_end (e := e.data.toList) (p := prevAt s k) (c := byteAt s k) (fun h => h13 ((b13 _).1 h.2)) (.inl ((b10 _).2 h10)))
        refine (writeString _ _ _ e wr hh (by omega) hb.size).mono ?_
        rintro r w2 ⟨rfl, h2, b2⟩
        go_wp2_with fail
        go_roundw
        case rel => exact ⟨k + 1, by omega, by go_num, by rw [HT.out, HP.out]; exact h2, hb.trans b2⟩
        case measure => simp [intOf]; omega
      · have h10 : (s[k].toNat : Int) = 10 := by assumption
        have h0 : ¬ 0 < k := by assumption
        rw [HE.out] at h10
        have HP := hide (piece_end (e := e.data.toList) (p := prevAt s k) (c := byteAt s k) (fun h => by have := h.2; unfold prevAt at this; rw [if_pos (by omega)] at this; exact absurd this (by decide)) (.inl ((b10 _).2 h10)))
        refine (writeString _ _ _ e wr hh (by omega) hb.size).mono ?_
        rintro r w2 ⟨rfl, h2, b2⟩
        go_wp2_with fail
        go_roundw
        case rel => exact ⟨k + 1, by omega, by go_num, by rw [HT.out, HP.out]; exact h2, hb.trans b2⟩
        case measure => simp [intOf]; omega
      · have h10 : ¬ (s[k].toNat : Int) = 10 := by assumption
        have h13 : ((s[k].toNat : Int) == 10) = true ∨ ((s[k].toNat : Int) == 13) = true := by assumption
        rw [HE.out] at h10 h13
        rw [beq_iff_eq, beq_iff_eq] at h13
        have HP := hide (piece_end (e := e.data.toList) (p := prevAt s k) (c := byteAt s k) (fun h => h10 ((b10 _).1 h.1)) (.inr ((b13 _).2 (by omega))))
        refine (writeString _ _ _ e wr hh (by omega) hb.size).mono ?_
        rintro r w2 ⟨rfl, h2, b2⟩
        go_wp2_with fail
        go_roundw
        case rel => exact ⟨k + 1, by omega, by go_num, by rw [HT.out, HP.out]; exact h2, hb.trans b2⟩
        case measure => simp [intOf]; omega
      · have h10 : ¬ (s[k].toNat : Int) = 10 := by assumption
        have h13 : ((s[k].toNat : Int) == 10) = false ∧ ((s[k].toNat : Int) == 13) = false := by assumption
        rw [HE.out] at h10 h13
        rw [beq_eq_false_iff_ne, beq_eq_false_iff_ne] at h13
        have HP := hide (piece_byte (e := e.data.toList) (p := prevAt s k) (c := byteAt s k) (fun h => h10 ((b10 _).1 h)) (fun h => h13.2 ((b13 _).1 h)))
        rw [HE.out]
        refine (writeByte _ _ _ (byteAt s k) wr hh (by omega) hb.size).mono ?_
        rintro r w2 ⟨rfl, h2, b2⟩
        go_wp2_with fail
        go_roundw
        case rel => exact ⟨k + 1, by omega, by go_num, by rw [HT.out, HP.out]; exact h2, hb.trans b2⟩
        case measure => simp [intOf]; omega
    · have e : k = s.size := by omega
      subst e
      rw [take_all] at hh
      go_wp2_with fail
      refine (builderText _ _ _ _ hh hb.size).mono ?_
      rintro r w2 ⟨rfl, b2⟩
      go_wp2_with fail
      go_ret
      exact ⟨rfl, hb.trans b2⟩
set_option maxHeartbeats 400000 in
theorem noBreaks_any (s : ByteArray) (w : World) (hs : s.size ≤ 1099511627776) :
    Calls Tryz.prog 58 #[.string s] w fun r w' => r = .returned (.string (noBreaksS s)) ∧ Below w.heap.size w w' := by
  go_enter Tryz.func58, Tryz.ntmps58
  go_wp2_with fail
  refine (withEnds_any s ⟨#[]⟩ _ hs (by decide)).mono ?_
  rintro r w1 ⟨rfl, b1⟩
  go_wp2_with fail
  go_ret
  exact ⟨rfl, b1⟩

end Go.Proofs.YtfjfkkbgkjmghaaGreatDoor
