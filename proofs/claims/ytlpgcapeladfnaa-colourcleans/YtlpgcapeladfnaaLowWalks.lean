/- The program's Lower and Same, and the document's Lower, answer by the small letters of a text, for every text; they change nothing that was there. No condition beyond the texts' lengths as every row has them. -/
import Derived.Test.YtlpgcapeladfnaaRows
import Derived.Test.YtlpgcapeladfnaaLow
namespace Go.Proofs.Ytlpgcapeladfnaa
open Go.RowKit
set_option maxRecDepth 100000

theorem byteTypes : ByteTypes Try.prog 34 5 9 := ⟨Try.underlying34, Try.underlying5, Try.underlying9, by kernel_rfl⟩

/-- Behind k rounds: the first k bytes of the new row are small, the others as they were. -/
structure LowAt (w : World) (s : ByteArray) (k : Nat) (wr : World) : Prop where
  cells : ∀ j, j < s.size → wr.cell? ⟨w.heap.size, j, none⟩ = some (.int .u8 ((if j < k then lowB (byteAt s j) else byteAt s j).toNat : Int))
  free : ∀ j, j < s.size → wr.frozen? ⟨w.heap.size, j, none⟩ = false
  below : Below w.heap.size w wr

theorem lowAt_start (w : World) (s : ByteArray) : LowAt w s 0 (Lib.bytesWorld w 5 s) :=
  ⟨fun j hj => by rw [Lib.bytesWorld_cell _ _ _ _ hj]; rfl, fun j hj => bytes_free w 5 s j hj, bytes_below w 5 s⟩
theorem lowAt_here {w : World} {s : ByteArray} {k : Nat} {wr : World} (h : LowAt w s k wr) (hk : k < s.size) : wr.cell? ⟨w.heap.size, k, none⟩ = some (.int .u8 ((byteAt s k).toNat : Int)) := by
  rw [h.cells k hk, if_neg (by omega)]
theorem lowAt_yes {w : World} {s : ByteArray} {k : Nat} {wr : World} (h : LowAt w s k wr) (hk : k < s.size) (h1 : 65 ≤ (byteAt s k).toNat) (h2 : (byteAt s k).toNat ≤ 90) :
    LowAt w s (k + 1) (wr.setCell ⟨w.heap.size, k, none⟩ (.int .u8 (((byteAt s k).toNat : Int) - 65 + 97))) := by
  refine ⟨fun j hj => ?_, fun j hj => ?_, h.below.setCell (Nat.le_refl _) _⟩
  · by_cases e : j = k
    · subst e
      rw [World.cell?_setCell_same _ _ _ (lowAt_here h hk), if_pos (by omega), lowB_yes _ h1 h2]
      congr 2; omega
    · rw [World.cell?_setCell_other _ _ _ _ (fun x => e (by simpa using x.symm)), h.cells j hj]
      by_cases e2 : j < k
      · rw [if_pos e2, if_pos (by omega)]
      · rw [if_neg e2, if_neg (by omega)]
  · rw [World.frozen?_setCell]; exact h.free j hj
theorem lowAt_no {w : World} {s : ByteArray} {k : Nat} {wr : World} (h : LowAt w s k wr) (h1 : ¬ (65 ≤ (byteAt s k).toNat ∧ (byteAt s k).toNat ≤ 90)) : LowAt w s (k + 1) wr := by
  refine ⟨fun j hj => ?_, h.free, h.below⟩
  rw [h.cells j hj]
  by_cases e2 : j < k
  · rw [if_pos e2, if_pos (by omega)]
  · by_cases e : j = k
    · subst e; rw [if_neg (by omega), if_pos (by omega), lowB_no _ h1]
    · rw [if_neg e2, if_neg (by omega)]
theorem lowAt_end {w : World} {s : ByteArray} {wr : World} (h : LowAt w s s.size wr) (cap : Nat) :
    (convert 34 9 (.slice (some ⟨w.heap.size, 0, none⟩) s.size cap)).run Try.prog wr = .ok (.string (lowS s)) wr := by
  have hl : ((lowL s.data.toList).map fun c => (c.toNat : Int)).length = s.size := by simp [lowL]
  have := run_convert_bytes_arg (P := Try.prog) wr 34 5 byteTypes.sl byteTypes.el w.heap.size 0 s.size cap _ hl (fun i hi => by
    rw [Nat.zero_add, h.cells i hi, if_pos hi]
    simp [lowL, byteAt, List.getD, hi]) 9 byteTypes.str
  rw [this, strOfNums_bytes]; rfl

set_option maxHeartbeats 400000 in
theorem lower_any (s : ByteArray) (w : World) (hs : s.size ≤ maxLen) :
    Calls Try.prog 16 #[.string s] w fun e w' => e = .returned (.string (lowS s)) ∧ Below w.heap.size w w' := by
  unfold maxLen at hs
  have hconv := fun w => Lib.run_convert_string_bytes (P := Try.prog) w 9 34 5 s byteTypes.str byteTypes.sl byteTypes.el
  go_enter Try.func16, Try.ntmps16
  go_wp2
  go_loopw [10] (fun i wr => ∃ k : Nat, k ≤ s.size ∧ i = .int .i64 k ∧ LowAt w s k wr) (fun i _ => s.size - (intOf i).toNat)
  case atStart => exact ⟨0, Nat.zero_le _, rfl, lowAt_start w s⟩
  case round =>
    obtain ⟨k, hk, rfl, hl⟩ := hrel
    by_cases hlt : k < s.size
    · have hc := lowAt_here hl hlt
      have hf := hl.free k hlt
      have hb : ((byteAt s k).toNat : Int) ≤ 255 := by have := (byteAt s k).toNat_lt; omega
      have HY := hide (lowAt_yes hl hlt)
      have HN := hide (lowAt_no hl)
      go_wp2
      · go_roundw
        case rel => exact ⟨k + 1, by omega, by go_num, HY.out (by omega) (by omega)⟩
        case measure => simp [intOf]; omega
      · go_roundw
        case rel => exact ⟨k + 1, by omega, by go_num, HN.out (by omega)⟩
        case measure => simp [intOf]; omega
      · go_roundw
        case rel => exact ⟨k + 1, by omega, by go_num, HN.out (by omega)⟩
        case measure => simp [intOf]; omega
    · have e : k = s.size := by omega
      subst e
      have hend := lowAt_end hl (grownCap w s.size 0 5)
      go_wp2
      go_ret
      exact ⟨rfl, hl.below⟩

set_option maxHeartbeats 400000 in
theorem refLower_any (s : ByteArray) (w : World) (hs : s.size ≤ 70368744177663) :
    Calls Try.prog 19 #[.string s] w fun e w' => e = .returned (.string (lowS s)) ∧ Below w.heap.size w w' := by
  go_enter Try.func19, Try.ntmps19
  go_wp2
  go_loopw [3, 4] (fun v i wr => ∃ k : Nat, k ≤ s.size ∧ i = .int .i64 k ∧ OwnsB 5 w.heap.size wr v (lowL (s.data.toList.take k)) ∧ Below w.heap.size w wr) (fun _ i _ => s.size - (intOf i).toNat)
  case atStart => exact ⟨0, Nat.zero_le _, rfl, OwnsB.nil _ _ _, Below.refl _ _⟩
  case round =>
    obtain ⟨k, hk, rfl, hown, hb⟩ := hrel
    by_cases hlt : k < s.size
    · have hll : (lowL (s.data.toList.take k)).length ≤ k := by rw [lowL_length]; exact List.length_take_le _ _
      have HT := hide (lowL_take s k hlt)
      have hsz := hb.size
      have hbe := byteAt_eq s k hlt
      rcases (show (65 ≤ (s[k].toNat : Int) ∧ (s[k].toNat : Int) ≤ 90) ∨ (65 ≤ (s[k].toNat : Int) ∧ 90 < (s[k].toNat : Int)) ∨ (s[k].toNat : Int) < 65 by omega) with ⟨h1, h2⟩ | ⟨h1, h2⟩ | h1
      · have HV : Hid ((s[k].toNat : Int) + 32 = ((lowB (byteAt s k)).toNat : Int)) := by
          rw [← hbe, lowB_yes _ (by omega) (by omega)]; exact (Int.natCast_add _ _).symm
        clear hbe
        go_wp2_with (at_builtin; refine wpList_append_byte byteTypes wr _ rfl _ _ rfl w.heap.size _ _ (lowB (byteAt s k)) HV.out rfl hown rfl (by omega) (by omega) ?_; intro v' w' hown' hb')
        go_roundw
        case rel => exact ⟨k + 1, by omega, by go_num, by rw [HT.out]; exact hown', hb.trans hb'⟩
        case measure => simp [intOf]; omega
      · have HV : Hid ((s[k].toNat : Int) = ((lowB (byteAt s k)).toNat : Int)) := by
          rw [← hbe, lowB_no _ (by omega)]; exact rfl
        clear hbe
        go_wp2_with (at_builtin; refine wpList_append_byte byteTypes wr _ rfl _ _ rfl w.heap.size _ _ (lowB (byteAt s k)) HV.out rfl hown rfl (by omega) (by omega) ?_; intro v' w' hown' hb')
        go_roundw
        case rel => exact ⟨k + 1, by omega, by go_num, by rw [HT.out]; exact hown', hb.trans hb'⟩
        case measure => simp [intOf]; omega
      · have HV : Hid ((s[k].toNat : Int) = ((lowB (byteAt s k)).toNat : Int)) := by
          rw [← hbe, lowB_no _ (by omega)]; exact rfl
        clear hbe
        go_wp2_with (at_builtin; refine wpList_append_byte byteTypes wr _ rfl _ _ rfl w.heap.size _ _ (lowB (byteAt s k)) HV.out rfl hown rfl (by omega) (by omega) ?_; intro v' w' hown' hb')
        go_roundw
        case rel => exact ⟨k + 1, by omega, by go_num, by rw [HT.out]; exact hown', hb.trans hb'⟩
        case measure => simp [intOf]; omega
    · have e : k = s.size := by omega
      subst e
      have ht : s.data.toList.take s.size = s.data.toList := List.take_of_length_le (by simp)
      rw [ht] at hown
      have hend := hown.text byteTypes
      go_wp2
      go_ret
      exact ⟨rfl, hb⟩

end Go.Proofs.Ytlpgcapeladfnaa
