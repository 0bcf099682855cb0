/- The program's Decode answers by decL; it changes nothing that was there. Conditions: texts of at most 2^40 bytes; the table of digits reads as the program's text lays it. -/
import Derived.Test.YtcaoamccnibihaaDoorDigitWalk
import Derived.Test.YtcaoamccnibihaaDoorDecAt
import Derived.Test.YtcaoamccnibihaaDoorBGrow
import Derived.Test.YtcaoamccnibihaaDoorBByte
import Derived.Test.YtcaoamccnibihaaDoorBString
namespace Go.Proofs.YtcaoamccnibihaaDoor
open Go.RowKit

def eNum : Option UInt8 → Int
  | some v => (v.toNat : Int)
  | none => 0
def eOk : Option UInt8 → Bool
  | some _ => true
  | none => false

theorem or_two : ∀ a b : Fin 16, bits .or .u8 ((a.val : Int) * 16) b.val = (a.val : Int) * 16 + b.val := by decide +kernel
theorem list3 (t : ByteArray) (h : 3 ≤ t.size) : t.data.toList = t[0] :: t[1] :: t[2] :: t.data.toList.drop 3 := by
  have hl : t.data.toList.length = t.size := by simp
  rw [← List.drop_zero (l := t.data.toList), List.drop_eq_getElem_cons (by omega), List.drop_eq_getElem_cons (i := 0 + 1) (by omega), List.drop_eq_getElem_cons (i := 0 + 1 + 1) (by omega)]
  rfl
theorem ret_none {t : ByteArray} (h : headE t.data.toList = none) : Ending.returned (.tuple #[.int .u8 0, .bool false]) = .returned (.tuple #[.int .u8 (eNum (headE t.data.toList)), .bool (eOk (headE t.data.toList))]) := by
  rw [h]; rfl
theorem ret_some {t : ByteArray} {v : UInt8} (h : headE t.data.toList = some v) {y : Int} (hy : y = (v.toNat : Int)) : Ending.returned (.tuple #[.int .u8 y, .bool true]) = .returned (.tuple #[.int .u8 (eNum (headE t.data.toList)), .bool (eOk (headE t.data.toList))]) := by
  rw [h, hy]; rfl

set_option maxHeartbeats 1000000 in
theorem escaped_any (t : ByteArray) (w : World) (hT : Digs w) :
    Calls Tryd.prog 30 #[.string t] w fun e w' => e = .returned (.tuple #[.int .u8 (eNum (headE t.data.toList)), .bool (eOk (headE t.data.toList))]) ∧ w' = w := by
  have HT := hide hT
  clear hT
  by_cases h3 : 3 ≤ t.size
  · have hi3 : (3 : Int) ≤ (t.size : Int) := by omega
    have hl := list3 t h3
    by_cases h37 : (t[0].toNat : Int) = 37
    · have q : ((t[0].toNat : Int) != 37) = false := by simpa using h37
      have h0 : t[0] = 37 := UInt8.toNat_inj.1 (by show _ = 37; omega)
      have hx := fun w hT => digit_any t[1] w hT
      have hy := fun w hT => digit_any t[2] w hT
      have gx := hexV_lt t[1]
      have gy := hexV_lt t[2]
      by_cases ha : 0 ≤ hexV t[1]
      · obtain ⟨a, ea⟩ : ∃ a : Nat, hexV t[1] = a := ⟨(hexV t[1]).toNat, by omega⟩
        have ha16 : a < 16 := by omega
        by_cases hb : 0 ≤ hexV t[2]
        · obtain ⟨b, eb⟩ : ∃ b : Nat, hexV t[2] = b := ⟨(hexV t[2]).toNat, by omega⟩
          have hb16 : b < 16 := by omega
          have HE : Hid (headE t.data.toList = some (two t[1] t[2])) := by
            rw [hl, h0]; exact headE_yes _ ha hb
          have HV := hide ((or_two ⟨a, ha16⟩ ⟨b, hb16⟩).trans (two_num ea eb ha16 hb16).symm)
          rw [ea, dNum_yes (by omega), dOk_yes (by omega)] at hx
          rw [eb, dNum_yes (by omega), dOk_yes (by omega)] at hy
          have HX := hide hx
          have HY := hide hy
          clear hx hy ea eb h37 h0 ha hb hl gx gy
          go_enter Tryd.func30, Tryd.ntmps30
          go_wp2_with fail
          refine (HX.out _ HT.out).mono ?_
          rintro e w1 ⟨rfl, rfl⟩
          go_wp2_with fail
          refine (HY.out _ HT.out).mono ?_
          rintro e w1 ⟨rfl, rfl⟩
          go_wp2_with fail
          go_ret2
          exact ⟨ret_some HE.out HV.out, rfl⟩
        · have HE : Hid (headE t.data.toList = none) := by
            rw [hl]; exact headE_noB _ hb
          rw [ea, dNum_yes (by omega), dOk_yes (by omega)] at hx
          rw [dOk_no hb] at hy
          have HX := hide hx
          have HY := hide hy
          clear hx hy ea h37 h0 ha hb hl gx gy
          go_enter Tryd.func30, Tryd.ntmps30
          go_wp2_with fail
          refine (HX.out _ HT.out).mono ?_
          rintro e w1 ⟨rfl, rfl⟩
          go_wp2_with fail
          refine (HY.out _ HT.out).mono ?_
          rintro e w1 ⟨rfl, rfl⟩
          go_wp2_with fail
          go_ret2
          exact ⟨ret_none HE.out, rfl⟩
      · have HE : Hid (headE t.data.toList = none) := by
          rw [hl]; exact headE_noA _ ha
        rw [dOk_no ha] at hx
        have HX := hide hx
        have HY := hide hy
        clear hx hy h37 h0 ha hl gx gy
        go_enter Tryd.func30, Tryd.ntmps30
        go_wp2_with fail
        refine (HX.out _ HT.out).mono ?_
        rintro e w1 ⟨rfl, rfl⟩
        go_wp2_with fail
        refine (HY.out _ HT.out).mono ?_
        rintro e w1 ⟨rfl, rfl⟩
        go_wp2_with fail
        go_ret2
        exact ⟨ret_none HE.out, rfl⟩
    · have q : ((t[0].toNat : Int) != 37) = true := by simpa using h37
      have HE : Hid (headE t.data.toList = none) := by
        rw [hl]; exact headE_ne _ (fun e => h37 (by rw [e]; rfl))
      clear h37 hl
      go_enter Tryd.func30, Tryd.ntmps30
      go_wp2_with fail
      go_ret2
      exact ⟨ret_none HE.out, rfl⟩
  · have hi3 : (t.size : Int) < 3 := by omega
    have HE : Hid (headE t.data.toList = none) := headE_short (by simp; omega)
    go_enter Tryd.func30, Tryd.ntmps30
    go_wp2_with fail
    go_ret2
    exact ⟨ret_none HE.out, rfl⟩

set_option maxHeartbeats 1000000 in
theorem decode_any (s : ByteArray) (w : World) (hs : s.size ≤ 1099511627776) (hD : Digs w) :
    Calls Tryd.prog 14 #[.string s] w fun r w' => r = .returned (.string (decS s)) ∧ Below w.heap.size w w' := by
  have HD := hide hD
  clear hD
  go_enter Tryd.func14, Tryd.ntmps14
  go_wp2_with fail
  refine (grow_fresh s.size w (by omega)).mono ?_
  rintro r w1 ⟨rfl, h1, b1⟩
  go_wp2_with fail
  go_loopw [4, 13] (fun nx i wr => ∃ (k n : Nat) (l : List UInt8), k ≤ s.size ∧ i = .int .i64 k ∧ nx = .int .i64 n ∧ DecAt s k n l ∧ HoldsB w.heap.size w.heap.size l wr ∧ Below w.heap.size w wr) (fun _ i _ => s.size - (intOf i).toNat)
  case atStart => exact ⟨0, 0, [], Nat.zero_le _, rfl, rfl, decAt_start s, h1, b1⟩
  case round =>
    obtain ⟨k, n, l, hk, rfl, rfl, hd, hh, hb⟩ := hrel
    have hle := decAt_len hd
    have hn := hd.1
    have HK := hide hd
    clear hd
    by_cases hlt : k < s.size
    · have hsz := hb.size
      by_cases hkn : k < n
      · have HN := hide (decAt_skip HK.out hkn)
        go_wp2_with fail
        go_roundw
        case rel => exact ⟨k + 1, n, l, by omega, by go_num, rfl, HN.out, hh, hb⟩
        case measure => simp [intOf]; omega
      · have hE := escaped_any (s.extract k s.size) wr (HD.out.below hb)
        rw [tail_list] at hE
        cases g : headE (s.data.toList.drop k) with
        | some v =>
          rw [g] at hE
          have HE := hide hE
          have HN := hide (decAt_hit HK.out (by omega) g)
          clear hE g
          go_wp2_with fail
          refine HE.out.mono ?_
          rintro e w0 ⟨rfl, hw⟩
          obtain rfl : wr = w0 := hw.symm
          clear hw
          go_wp2_with fail
          refine (writeByte _ _ _ v _ hh (by omega) hb.size).mono ?_
          rintro r w2 ⟨rfl, h2, b2⟩
          go_wp2_with fail
          go_roundw
          case rel => exact ⟨k + 1, k + 3, _, by omega, by go_num, by go_num, HN.out, h2, hb.trans b2⟩
          case measure => simp [intOf]; omega
        | none =>
          rw [g] at hE
          have HE := hide hE
          have HN := hide (decAt_miss HK.out (by omega) hlt g)
          clear hE g
          go_wp2_with fail
          refine HE.out.mono ?_
          rintro e w0 ⟨rfl, hw⟩
          obtain rfl : wr = w0 := hw.symm
          clear hw
          go_wp2_with fail
          refine (writeByte _ _ _ s[k] _ hh (by omega) hb.size).mono ?_
          rintro r w2 ⟨rfl, h2, b2⟩
          go_wp2_with fail
          go_roundw
          case rel => exact ⟨k + 1, n, _, by omega, by go_num, rfl, HN.out, h2, hb.trans b2⟩
          case measure => simp [intOf]; omega
    · have HN := hide (decAt_end HK.out (by omega))
      go_wp2_with fail
      refine (builderText _ _ _ _ hh hb.size).mono ?_
      rintro r w2 ⟨rfl, b2⟩
      go_wp2_with fail
      go_ret
      exact ⟨ret_str (congrArg txt HN.out), hb.trans b2⟩

end Go.Proofs.YtcaoamccnibihaaDoor
