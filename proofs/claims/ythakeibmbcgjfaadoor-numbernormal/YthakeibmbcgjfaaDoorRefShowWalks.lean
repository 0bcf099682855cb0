/- The document's Digits and Show answer by the functions of 'Num'; they change nothing that was there. Condition: numbers of 64 bits. -/
import Derived.Test.YthakeibmbcgjfaaDoorRows
import Derived.Test.YthakeibmbcgjfaaDoorLow
import Derived.Test.YthakeibmbcgjfaaDoorNumProg
import Derived.Deep.QuietTactic
import Derived.BigQuiet
namespace Go.Proofs.YthakeibmbcgjfaaDoor
open Go.RowKit

theorem byteTypes : ByteTypes Tryd.prog 38 5 9 := ⟨Tryd.underlying38, Tryd.underlying5, Tryd.underlying9, by kernel_rfl⟩
/-- 'string([]byte{c})'. -/
theorem one_text (w : World) (y : Int) (c : UInt8) (h : y = (c.toNat : Int)) :
    (convert 38 9 (.slice (some ⟨w.heap.size, 0, none⟩) 1 1)).run Tryd.prog (w.alloc (.cells #[.int .u8 y] 5)) = .ok (.string (txt [c])) (w.alloc (.cells #[.int .u8 y] 5)) := by
  subst h
  have := run_convert_bytes_arg (P := Tryd.prog) (w.alloc (.cells #[.int .u8 (c.toNat : Int)] 5)) 38 5 byteTypes.sl byteTypes.el w.heap.size 0 1 1 [(c.toNat : Int)] rfl (fun i hi => by
    obtain rfl : i = 0 := by omega
    rw [World.cell?_alloc_new]; rfl) 9 byteTypes.str
  rw [this, show ([(c.toNat : Int)] : List Int) = [c].map (fun c => (c.toNat : Int)) from rfl, strOfNums_bytes]

/-- What is left to be told, and what is told already. -/
structure DecsAt (n m : Nat) (l : List UInt8) : Prop where
  is : decD n = decD m ++ l
theorem txt_app (l k : List UInt8) : txt l ++ txt k = txt (l ++ k) := by
  apply ByteArray.ext
  apply Array.ext'
  simp [txt]

set_option maxHeartbeats 1000000 in
theorem refDigits_any (n : Nat) (w : World) (hn : n < 18446744073709551616) :
    Calls Tryd.prog 22 #[.int .u64 n] w fun e w' => e = .returned (.string (txt (decD n))) ∧ Below w.heap.size w w' := by
  go_enter Tryd.func22, Tryd.ntmps22
  go_wp2_with fail
  go_loopw [0, 3] (fun a v wr => ∃ (m : Nat) (l : List UInt8), m ≤ n ∧ a = .int .u64 m ∧ v = .string (txt l) ∧ DecsAt n m l ∧ Below w.heap.size w wr) (fun a _ _ => (intOf a).toNat)
  case atStart => exact ⟨n, [], Nat.le_refl _, rfl, rfl, ⟨by rw [List.append_nil]⟩, Below.refl _ _⟩
  case round =>
    obtain ⟨m, l, hm, rfl, rfl, hd, hb⟩ := hrel
    rename World => wr
    have hwb := hb.size
    have hl : (txt l).size ≤ 20 := by
      have h1 := congrArg List.length hd.is
      rw [List.length_append] at h1
      have h2 := decD_len (n := n) (k := 20) (by omega) (by decide)
      rw [txt_size]; omega
    have hone : ∀ c : UInt8, (txt [c]).size = 1 := fun c => rfl
    by_cases hg : m < 10
    · have E : Hid (decD n = [dgB m] ++ l) := hide (by rw [hd.is, decD_small hg])
      have hcv := one_text wr (48 + (m : Int)) (dgB m) (by rw [dgB_toNat hg]; omega)
      have hg' : (m : Int) ≤ 9 := by omega
      have hg0 : 0 ≤ (m : Int) := by omega
      have HCV := hide hcv
      clear hd hg hn hm hcv
      generalize (m : Int) = x at *
      go_wp2_with fail
      rw [HCV.out]
      clear HCV
      go_wp2_with fail
      go_ret
      refine ⟨ret_str ?_, hb.alloc hwb _⟩
      rw [E.out, txt_app]
    · have E : DecsAt n (m / 10) ([dgB (m % 10)] ++ l) := ⟨by rw [hd.is, decD_great hg, List.append_assoc]⟩
      have hcv := one_text wr (48 + (m : Int) % 10) (dgB (m % 10)) (by rw [dgB_toNat (by omega)]; omega)
      have hg' : 9 < (m : Int) := by omega
      have hx : (m : Int) < 18446744073709551616 := by omega
      have HM : Hid (m / 10 ≤ n ∧ 9 < m) := ⟨by omega, by omega⟩
      have HX : Hid ((m : Int) / 10 = ((m / 10 : Nat) : Int) ∧ (m : Int) = (m : Int)) := ⟨by omega, rfl⟩
      have HT := hide (txt_app [dgB (m % 10)] l)
      have hxx : Hid ((m : Int).toNat = m) := by show _ = _; omega
      have HCV := hide hcv
      clear hd hg hn hm hcv
      generalize (m : Int) = x at *
      go_wp2_with fail
      rw [HCV.out]
      clear HCV
      go_wp2_with fail
      go_roundw
      case rel => exact ⟨m / 10, [dgB (m % 10)] ++ l, HM.out.1, by rw [HX.out.1], by rw [HT.out], E, hb.alloc hwb _⟩
      case measure =>
        have h1 := hxx.out
        have h2 := HX.out.1
        have h3 := HM.out.2
        simp [intOf]; omega

end Go.Proofs.YthakeibmbcgjfaaDoor
