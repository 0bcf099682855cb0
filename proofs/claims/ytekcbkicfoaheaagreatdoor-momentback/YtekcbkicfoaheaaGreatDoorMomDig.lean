/- The document's Digits and Pad answer by decD and padL; blocks are laid behind, and no more. Condition: numbers of 64 bits; Pad: a width of four at most. -/
import Derived.Shelf.SlSortCmp.QuietGrown
import Derived.Test.YtekcbkicfoaheaaGreatDoorRows
import Derived.Test.YtekcbkicfoaheaaGreatDoorLow
import Derived.Test.YtekcbkicfoaheaaGreatDoorMomShow
import Derived.BigQuiet
namespace Go.Proofs.YtekcbkicfoaheaaGreatDoor
open Go.RowKit Go.Sort

/-- The world has drawn, and blocks have been laid behind it; no more. -/
def Grew (w w' : World) : Prop := ∃ q os, w' = grow (w.drewN q) os
theorem Grew.refl (w : World) : Grew w w := ⟨0, #[], by rw [grow_empty]; rfl⟩
theorem Grew.trans {a b c : World} (h : Grew a b) (k : Grew b c) : Grew a c := by
  obtain ⟨q, os, rfl⟩ := h
  obtain ⟨r, ps, rfl⟩ := k
  refine ⟨q + r, os ++ ps, ?_⟩
  show grow (grow ((a.drewN q).drewN r) os) ps = _
  rw [grow_grow, World.drewN_drewN]
theorem Grew.alloc {w v : World} (h : Grew w v) (o : Obj) : Grew w (v.alloc o) := h.trans ⟨0, #[o], rfl⟩
theorem Grew.below {w w' : World} (h : Grew w w') : Below w.heap.size w w' := by
  obtain ⟨q, os, rfl⟩ := h
  refine ⟨rfl, rfl, rfl, by simp [grow], fun i hi => ?_⟩
  show ((w.drewN q).heap ++ os)[i]? = _
  rw [Array.getElem?_append_left (by show i < w.heap.size; omega)]
  rfl
theorem Grew.drew (w : World) (q : Nat) : Grew w (w.drewN q) := ⟨q, #[], by rw [grow_empty]⟩

theorem byteTypes : ByteTypes Tryz.prog 93 5 9 := ⟨Tryz.underlying93, Tryz.underlying5, Tryz.underlying9, by kernel_rfl⟩
/-- 'string([]byte{c})'. -/
theorem one_text (w : World) (y : Int) (c : UInt8) (h : y = (c.toNat : Int)) :
    (convert 93 9 (.slice (some ⟨w.heap.size, 0, none⟩) 1 1)).run Tryz.prog (w.alloc (.cells #[.int .u8 y] 5)) = .ok (.string (txt [c])) (w.alloc (.cells #[.int .u8 y] 5)) := by
  subst h
  have := run_convert_bytes_arg (P := Tryz.prog) (w.alloc (.cells #[.int .u8 (c.toNat : Int)] 5)) 93 5 byteTypes.sl byteTypes.el w.heap.size 0 1 1 [(c.toNat : Int)] rfl (fun i hi => by
    obtain rfl : i = 0 := by omega
    rw [World.cell?_alloc_new]; rfl) 9 byteTypes.str
  rw [this, show ([(c.toNat : Int)] : List Int) = [c].map (fun c => (c.toNat : Int)) from rfl, strOfNums_bytes]

/-- What is left to be told, and what is told already. -/
structure DecsAt (n m : Nat) (l : List UInt8) : Prop where
  is : decD n = decD m ++ l
theorem txt_app (l k : List UInt8) : txt l ++ txt k = txt (l ++ k) := by
  apply ByteArray.ext
  apply Array.ext'
  simp [txt]

set_option maxHeartbeats 1000000 in
set_option maxRecDepth 100000 in
theorem refDigits_any (n : Nat) (w : World) (hn : n < 18446744073709551616) :
    Calls Tryz.prog 57 #[.int .u64 n] w fun e w' => e = .returned (.string (txt (decD n))) ∧ Grew w w' := by
  go_enter Tryz.func57, Tryz.ntmps57
  go_wp2_with fail
  go_loopw [0, 3] (fun a v wr => ∃ (m : Nat) (l : List UInt8), m ≤ n ∧ a = .int .u64 m ∧ v = .string (txt l) ∧ DecsAt n m l ∧ Grew w wr) (fun a _ _ => (intOf a).toNat)
  case atStart => exact ⟨n, [], Nat.le_refl _, rfl, rfl, ⟨by rw [List.append_nil]⟩, Grew.refl _⟩
  case round =>
    obtain ⟨m, l, hm, rfl, rfl, hd, hb⟩ := hrel
    rename World => wr
    have hl : (txt l).size ≤ 20 := by
      have h1 := congrArg List.length hd.is
      rw [List.length_append] at h1
      have h2 := decD_len (n := n) (k := 20) (by omega) (by decide)
      rw [txt_size]; omega
    have hone : ∀ c : UInt8, (txt [c]).size = 1 := fun c => rfl
    by_cases hg : m < 10
    · have E : Hid (decD n = [dgB m] ++ l) := hide (by rw [hd.is, decD_small hg])
      have hcv := one_text wr (48 + (m : Int)) (dgB m) (by rw [dgB_toNat hg]; omega)
      have hg' : (m : Int) ≤ 9 := by omega
      have hg0 : 0 ≤ (m : Int) := by omega
      have HCV := hide hcv
      clear hd hg hn hm hcv
      generalize (m : Int) = x at *
      go_wp2_with fail
      rw [HCV.out]
      clear HCV
      go_wp2_with fail
      go_ret
      refine ⟨ret_str ?_, hb.alloc _⟩
      rw [E.out, txt_app]
    · have E : DecsAt n (m / 10) ([dgB (m % 10)] ++ l) := ⟨by rw [hd.is, decD_great hg, List.append_assoc]⟩
      have hcv := one_text wr (48 + (m : Int) % 10) (dgB (m % 10)) (by rw [dgB_toNat (by omega)]; omega)
      have hg' : 9 < (m : Int) := by omega
      have hx : (m : Int) < 18446744073709551616 := by omega
      have HM : Hid (m / 10 ≤ n ∧ 9 < m) := ⟨by omega, by omega⟩
      have HX : Hid ((m : Int) / 10 = ((m / 10 : Nat) : Int) ∧ (m : Int) = (m : Int)) := ⟨by omega, rfl⟩
      have HT := hide (txt_app [dgB (m % 10)] l)
      have hxx : Hid ((m : Int).toNat = m) := by show _ = _; omega
      have HCV := hide hcv
      clear hd hg hn hm hcv
      generalize (m : Int) = x at *
      go_wp2_with fail
      rw [HCV.out]
      clear HCV
      go_wp2_with fail
      go_roundw
      case rel => exact ⟨m / 10, [dgB (m % 10)] ++ l, HM.out.1, by rw [HX.out.1], by rw [HT.out], E, hb.alloc _⟩
      case measure =>
        have h1 := hxx.out
        have h2 := HX.out.1
        have h3 := HM.out.2
        simp [intOf]; omega


theorem pad_more {n k j : Nat} (_h : j + (decD n).length < k) : txt [48] ++ txt (List.replicate j 48 ++ decD n) = txt (List.replicate (j + 1) 48 ++ decD n) := by
  rw [txt_app, List.replicate_succ]; rfl

set_option maxHeartbeats 1000000 in
theorem pad_any (n k : Nat) (w : World) (hn : n < 1000000000) (hk : k ≤ 4) :
    Calls Tryz.prog 28 #[.int .i64 n, .int .i64 k] w fun e w' => e = .returned (.string (txt (padL n k))) ∧ Grew w w' := by
  have hD := fun w => refDigits_any n w (by omega)
  have hlen := decD_len (n := n) (k := 9) (by omega) (by decide)
  have hP : Hid (padL n k = List.replicate (k - (decD n).length) 48 ++ decD n) := rfl
  have HQ := hide (fun j => pad_more (n := n) (k := k) (j := j))
  have hZ := fun j : Nat => (show (txt (List.replicate j 48 ++ decD n)).size = j + (decD n).length by rw [txt_size, List.length_append, List.length_replicate])
  have x1 : 0 ≤ (n : Int) := by omega
  have x2 : (n : Int) < 1000000000 := by omega
  have k2 : (k : Int) ≤ 4 := by omega
  have e0 : txt (decD n) = txt (List.replicate 0 48 ++ decD n) := rfl
  rw [e0] at hD
  have HD := hide hD
  have HZ := hide hZ
  clear hD hn e0 hZ
  generalize (n : Int) = x at *
  go_enter Tryz.func28, Tryz.ntmps28
  go_wp2_with fail
  refine (HD.out _).mono ?_
  rintro e v1 ⟨rfl, g1⟩
  go_wp2_with fail
  go_loop [5] (fun a => ∃ j : Nat, a = .string (txt (List.replicate j 48 ++ decD n)) ∧ j ≤ k - (decD n).length) (fun a => match a with | .string t => k - t.size | _ => 0)
  case atStart => exact ⟨0, rfl, Nat.zero_le _⟩
  case round =>
    obtain ⟨j, rfl, hj⟩ := hrel
    have hz := HZ.out j
    have hz1 := HZ.out (j + 1)
    have hq := HQ.out j
    by_cases hlt : j + (decD n).length < k
    · have hq2 := hide (hq hlt)
      generalize txt (List.replicate j 48 ++ decD n) = t at *
      have t1 : (t.size : Int) < (k : Int) := by omega
      have t2 : (⟨#[48]⟩ : ByteArray).size = 1 := rfl
      have HJ : Hid (j + 1 ≤ k - (decD n).length ∧ t.size < k ∧ t.size + 1 = j + 1 + (decD n).length) := ⟨by omega, by omega, by omega⟩
      clear hq
      go_wp2_with fail
      go_round
      case rel => exact ⟨j + 1, by first | (rw [← hq2.out]; rfl) | (show Value.string (txt [48] ++ t) = _; rw [hq2.out]), HJ.out.1⟩
      case measure =>
        have := HJ.out
        have e : (⟨#[48]⟩ ++ t : ByteArray).size = t.size + 1 := by rw [ByteArray.size_append, t2]; omega
        simp only [e]; omega
    · have hj2 : j = k - (decD n).length := by omega
      have E : Hid (txt (padL n k) = txt (List.replicate j 48 ++ decD n)) := by show _ = _; rw [hP.out, hj2]
      generalize txt (List.replicate j 48 ++ decD n) = t at *
      have t1 : (k : Int) ≤ (t.size : Int) := by omega
      clear hq hj2 hz1 hz hj hlt
      go_wp2_with fail
      go_ret
      exact ⟨ret_str E.out.symm, g1⟩

end Go.Proofs.YtekcbkicfoaheaaGreatDoor
