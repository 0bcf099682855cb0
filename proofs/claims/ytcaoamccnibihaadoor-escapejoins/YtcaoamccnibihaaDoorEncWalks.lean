/- The program's Encode and the document's answer by the same function of lists of bytes; they change nothing that was there. Conditions: texts of at most 2^40 bytes; the program's two tables read as its text lays them. -/
import Derived.Test.YtcaoamccnibihaaDoorSetsWalks2
import Derived.Test.YtcaoamccnibihaaDoorRefSets
import Derived.Test.YtcaoamccnibihaaDoorTables
import Derived.Test.YtcaoamccnibihaaDoorBGrow
import Derived.Test.YtcaoamccnibihaaDoorBByte
import Derived.Test.YtcaoamccnibihaaDoorBString
namespace Go.Proofs.YtcaoamccnibihaaDoor
open Go.RowKit

theorem shr4 (c : UInt8) : ((c.toNat : Int) >>> (4 : Nat)) = ((c.toNat / 16 : Nat) : Int) := by
  rw [Int.shiftRight_eq_div_pow]; omega

set_option maxHeartbeats 400000 in
theorem writeEscape_any (B b : Nat) (l : List UInt8) (c : UInt8) (w : World) (h : HoldsB B b l w) (hlen : l.length + 3 ≤ 140737488355328) (hBw : B ≤ w.heap.size) (hT : Digs w) (hB : 1 < B) :
    Calls Tryd.prog 26 #[.pointer (some ⟨b, 0, none⟩), .int .u8 (c.toNat : Int)] w fun e w' => e = .returned (.tuple #[]) ∧ HoldsB B b (l ++ [37, hexD (c.toNat / 16), hexD (c.toNat % 16)]) w' ∧ Below B w w' := by
  have hc := c.toNat_lt
  have HT := hide hT
  clear hT
  go_enter Tryd.func26, Tryd.ntmps26
  go_wp2_with fail
  refine (writeByte B b l 37 w h (by omega) hBw).mono ?_
  rintro e w1 ⟨rfl, h1, b1⟩
  have d1 := (HT.out.under b1 hB) (c.toNat / 16) (by omega)
  go_wp2_with fail
  refine (writeByte B b _ (hexD (c.toNat / 16)) w1 h1 (by simp; omega) (by have := b1.size; omega)).mono ?_
  rintro e w2 ⟨rfl, h2, b2⟩
  have d2 := (HT.out.under (b1.trans b2) hB) (c.toNat % 16) (by omega)
  clear d1
  go_wp2_with fail
  refine (writeByte B b _ (hexD (c.toNat % 16)) w2 h2 (by simp; omega) (by have := b1.size; have := b2.size; omega)).mono ?_
  rintro e w3 ⟨rfl, h3, b3⟩
  go_wp2_with fail
  go_end0
  refine ⟨rfl, ?_, (b1.trans b2).trans b3⟩
  have e1 : l ++ [37] ++ [hexD (c.toNat / 16)] ++ [hexD (c.toNat % 16)] = l ++ [37, hexD (c.toNat / 16), hexD (c.toNat % 16)] := by simp
  rw [← e1]; exact h3

theorem encL_take (set : Int) (s : ByteArray) (k : Nat) (h : k < s.size) : encL set (s.data.toList.take (k + 1)) = encL set (s.data.toList.take k) ++ encB set s[k] := by
  rw [byteAt_take s k h, encL_append, ← byteAt_eq s k h]
  show _ ++ (encB set s[k] ++ []) = _
  rw [List.append_nil]
theorem encL_take_len (set : Int) (s : ByteArray) (k : Nat) : (encL set (s.data.toList.take k)).length ≤ 3 * k := by
  have := encL_len set (s.data.toList.take k)
  have := List.length_take_le k s.data.toList
  omega
theorem take_all (s : ByteArray) : s.data.toList.take s.size = s.data.toList := List.take_of_length_le (by simp)

set_option maxHeartbeats 400000 in
theorem encode_any (s : ByteArray) (set : Int) (w : World) (hset : 0 ≤ set ∧ set ≤ 7) (hs : s.size ≤ 1099511627776) (hS : Signs w) (hD : Digs w) :
    Calls Tryd.prog 11 #[.string s, .int .i64 set] w fun r w' => r = .returned (.tuple #[.string (encS set s), .int .i64 0]) ∧ Below w.heap.size w w' := by
  have hB : 1 < w.heap.size := World.block_lt_of_cell? _ _ (hD 0 (by decide))
  have hI := fun w => isSet_any set w
  rw [decide_eq_true hset] at hI
  have HI := hide hI
  have HS := hide hS
  have HD := hide hD
  clear hI hS hD
  go_enter Tryd.func11, Tryd.ntmps11
  go_wp2_with fail
  refine (HI.out _).mono ?_
  rintro e w0 ⟨rfl, hw⟩
  obtain rfl : w = w0 := hw.symm
  clear hw
  go_wp2_with fail
  refine (grow_fresh s.size w (by omega)).mono ?_
  rintro r w1 ⟨rfl, h1, b1⟩
  go_wp2_with fail
  go_loopw [16] (fun i wr => ∃ k : Nat, k ≤ s.size ∧ i = .int .i64 k ∧ HoldsB w.heap.size w.heap.size (encL set (s.data.toList.take k)) wr ∧ Below w.heap.size w wr) (fun i _ => s.size - (intOf i).toNat)
  case atStart => exact ⟨0, Nat.zero_le _, rfl, h1, b1⟩
  case round =>
    obtain ⟨k, hk, rfl, hh, hb⟩ := hrel
    by_cases hlt : k < s.size
    · have hle := encL_take_len set s k
      have HT := hide (encL_take set s k hlt)
      have hsz := hb.size
      have hE := escapes_any set s[k] wr (HS.out.below hb)
      cases g : escB set s[k] with
      | true =>
        rw [g] at hE
        have HE := hide hE
        have HG := hide (encB_yes g)
        clear hE g
        go_wp2_with fail
        refine HE.out.mono ?_
        rintro e w0 ⟨rfl, hw⟩
        obtain rfl : wr = w0 := hw.symm
        clear hw
        go_wp2_with fail
        refine (writeEscape_any _ _ _ s[k] _ hh (by omega) hb.size (HD.out.below hb) hB).mono ?_
        rintro r w2 ⟨rfl, h2, b2⟩
        go_wp2_with fail
        go_roundw
        case rel => exact ⟨k + 1, by omega, by go_num, by rw [HT.out, HG.out]; exact h2, hb.trans b2⟩
        case measure => simp [intOf]; omega
      | false =>
        rw [g] at hE
        have HE := hide hE
        have HG := hide (encB_not g)
        clear hE g
        go_wp2_with fail
        refine HE.out.mono ?_
        rintro e w0 ⟨rfl, hw⟩
        obtain rfl : wr = w0 := hw.symm
        clear hw
        go_wp2_with fail
        refine (writeByte _ _ _ s[k] _ hh (by omega) hb.size).mono ?_
        rintro r w2 ⟨rfl, h2, b2⟩
        go_wp2_with fail
        go_roundw
        case rel => exact ⟨k + 1, by omega, by go_num, by rw [HT.out, HG.out]; exact h2, hb.trans b2⟩
        case measure => simp [intOf]; omega
    · have e : k = s.size := by omega
      subst e
      rw [take_all] at hh
      go_wp2_with fail
      refine (builderText _ _ _ _ hh hb.size).mono ?_
      rintro r w2 ⟨rfl, b2⟩
      go_wp2_with fail
      go_ret2
      exact ⟨rfl, hb.trans b2⟩

set_option maxHeartbeats 400000 in
theorem encode_none (s : ByteArray) (set : Int) (w : World) (hset : ¬ (0 ≤ set ∧ set ≤ 7)) :
    Calls Tryd.prog 11 #[.string s, .int .i64 set] w fun r w' => r = .returned (.tuple #[.string ⟨#[]⟩, .int .i64 3]) ∧ w' = w := by
  have hI := fun w => isSet_any set w
  rw [decide_eq_false hset] at hI
  have HI := hide hI
  clear hI hset
  go_enter Tryd.func11, Tryd.ntmps11
  go_wp2_with fail
  refine (HI.out _).mono ?_
  rintro e w0 ⟨rfl, rfl⟩
  go_wp2_with fail
  go_ret2
  exact ⟨rfl, rfl⟩

end Go.Proofs.YtcaoamccnibihaaDoor
