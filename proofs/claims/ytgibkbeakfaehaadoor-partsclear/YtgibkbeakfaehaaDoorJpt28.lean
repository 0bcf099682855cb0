/- The document's Fit, Name, Unname, Type of layer 20. -/
import Derived.Test.YtgibkbeakfaehaaDoorJpt16
import Derived.Test.YtgibkbeakfaehaaDoorJpt21

namespace Go.Proofs.YtgibkbeakfaehaaDoor
open Go.RowKit
set_option maxRecDepth 100000
theorem nam_take (l : List UInt8) {k : Nat} (h : k < l.length) : namL (l.take (k + 1)) = namL (l.take k) ++ nameB l[k] := by
  unfold namL
  rw [List.take_succ_eq_append_getElem h, List.flatMap_append]; simp
set_option maxHeartbeats 4000000 in
theorem refName_any_PrtR1 (s : ByteArray) (w : World) (hs : s.size ≤ 1099511627776) :
    Calls Tryd.prog 41 #[.string s] w fun e w' => e = .returned (.string (txt (nameL (bL s)))) ∧ Below w.heap.size w w' := by
  have HP := hide (refPairs_any s w hs)
  have ES : Hid (bL (pairsS s) = prsL (bL s)) := rfl
  have zp := pairsS_size s
  generalize pairsS s = t at *
  have EN : Hid (nameL (bL s) = namL (bL t)) := by show _ = _; rw [ES.out]; rfl
  have LB := hide (len_bL t)
  clear ES
  go_enter Tryd.func41, Tryd.ntmps41
  go_wp2_with fail
  refine HP.out.mono ?_
  rintro e w1 ⟨rfl, b1⟩
  go_wp2_with fail
  go_loopw [4, 5] (fun ov iv wr => ∃ k : Nat, k ≤ t.size ∧ iv = .int .i64 k ∧ OwnsB 5 w1.heap.size wr ov (namL ((bL t).take k)) ∧ Hid (Below w1.heap.size w1 wr)) (fun _ iv _ => t.size - (intOf iv).toNat)
  case atStart => exact ⟨0, Nat.zero_le _, rfl, OwnsB.nil _ _ _, Below.refl _ _⟩
  case round =>
    rename World => wr
    obtain ⟨k, hk, rfl, OW, BW⟩ := hrel
    by_cases g : k < t.size
    · have k1 : (k : Int) < (t.size : Int) := by omega
      have k0 : (0 : Int) ≤ (k : Int) := by omega
      have TK := hide (nam_take (bL t) (k := k) (by rw [LB.out]; exact g))
      rw [at_bL g] at TK
      have NL := nam_len (bL t) k
      have sw := BW.out.size
      clear HP EN LB
      by_cases h0 : (t[k].toNat : Int) = 10
      · have q0 : ((t[k].toNat : Int) == 10) = true := by rw [h0]; rfl
        have hc : t[k] = 10 := byte_is (n := 10) (by omega) h0
        rw [show nameB t[k] = (⟨#[37, 48, 65]⟩ : ByteArray).data.toList by rw [hc]; rfl] at TK
        clear hc h0
        go_wp2_with (at_builtin; refine wpList_append_text byteTypesE wr rfl _ _ rfl w1.heap.size _ (namL ((bL t).take k)) ⟨#[37, 48, 65]⟩ rfl OW rfl (by show _ + 3 ≤ _; omega) (by omega) ?_; intro v' w' o' b')
        rw [← TK.out] at o'
        go_roundw
        case rel => exact ⟨k + 1, by omega, by go_num, o', BW.out.trans b'⟩
        case measure => simp [intOf]; omega
      · have n0 := h0
        clear h0
        by_cases h1 : (t[k].toNat : Int) = 13
        · have q0 : ((t[k].toNat : Int) == 10) = false := by rw [beq_eq_false_iff_ne]; exact n0
          have q1 : ((t[k].toNat : Int) == 13) = true := by rw [h1]; rfl
          have hc : t[k] = 13 := byte_is (n := 13) (by omega) h1
          rw [show nameB t[k] = (⟨#[37, 48, 68]⟩ : ByteArray).data.toList by rw [hc]; rfl] at TK
          clear hc h1
          go_wp2_with (at_builtin; refine wpList_append_text byteTypesE wr rfl _ _ rfl w1.heap.size _ (namL ((bL t).take k)) ⟨#[37, 48, 68]⟩ rfl OW rfl (by show _ + 3 ≤ _; omega) (by omega) ?_; intro v' w' o' b')
          rw [← TK.out] at o'
          go_roundw
          case rel => exact ⟨k + 1, by omega, by go_num, o', BW.out.trans b'⟩
          case measure => simp [intOf]; omega
        · have n1 := h1
          clear h1
          by_cases h2 : (t[k].toNat : Int) = 34
          · have q0 : ((t[k].toNat : Int) == 10) = false := by rw [beq_eq_false_iff_ne]; exact n0
            have q1 : ((t[k].toNat : Int) == 13) = false := by rw [beq_eq_false_iff_ne]; exact n1
            have q2 : ((t[k].toNat : Int) == 34) = true := by rw [h2]; rfl
            have hc : t[k] = 34 := byte_is (n := 34) (by omega) h2
            rw [show nameB t[k] = (⟨#[37, 50, 50]⟩ : ByteArray).data.toList by rw [hc]; rfl] at TK
            clear hc h2
            go_wp2_with (at_builtin; refine wpList_append_text byteTypesE wr rfl _ _ rfl w1.heap.size _ (namL ((bL t).take k)) ⟨#[37, 50, 50]⟩ rfl OW rfl (by show _ + 3 ≤ _; omega) (by omega) ?_; intro v' w' o' b')
            rw [← TK.out] at o'
            go_roundw
            case rel => exact ⟨k + 1, by omega, by go_num, o', BW.out.trans b'⟩
            case measure => simp [intOf]; omega
          · have n2 := h2
            clear h2
            have q0 : ((t[k].toNat : Int) == 10) = false := by rw [beq_eq_false_iff_ne]; exact n0
            have q1 : ((t[k].toNat : Int) == 13) = false := by rw [beq_eq_false_iff_ne]; exact n1
            have q2 : ((t[k].toNat : Int) == 34) = false := by rw [beq_eq_false_iff_ne]; exact n2
            have hc : nameB t[k] = [t[k]] := by
              unfold nameB
              rw [if_neg (fun e => n0 (by rw [e]; rfl)), if_neg (fun e => n1 (by rw [e]; rfl)), if_neg (fun e => n2 (by rw [e]; rfl))]
            rw [hc] at TK
            clear hc
            go_wp2_with (at_builtin; refine wpList_append_byte byteTypesE wr _ rfl _ _ rfl w1.heap.size _ (namL ((bL t).take k)) t[k] rfl rfl OW rfl (by omega) (by omega) ?_; intro v' w' o' b')
            rw [← TK.out] at o'
            go_roundw
            case rel => exact ⟨k + 1, by omega, by go_num, o', BW.out.trans b'⟩
            case measure => simp [intOf]; omega
    · obtain rfl : k = t.size := by omega
      rw [List.take_of_length_le (by rw [LB.out]; omega)] at OW
      have hend := OW.text byteTypesE
      rw [← EN.out] at hend
      clear HP EN LB
      go_wp2_with fail
      go_ret
      exact ⟨rfl, chain b1 BW.out⟩

end Go.Proofs.YtgibkbeakfaehaaDoor
