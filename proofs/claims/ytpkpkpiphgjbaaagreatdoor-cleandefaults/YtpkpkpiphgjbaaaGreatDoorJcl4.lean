/- Joined texts. MomDig: The document's Digits and Pad answer by decD and padL; blocks are laid behind, and no more. Condition: numbers of 64 bits; Pad: a width of four at most. MomDay: The document's Day (a day's text) answers by dateL; blocks are laid behind, and no more. Condition: a day of six digits' year at most. MomClock: The document's Clock (a time's text) answers by clockL; blocks are laid behind, and no more. Condition: a time of one day. MomSh1: The document's Show of moments: days, and days with times. Condition: numbers of 64 bits. -/
import Derived.Shelf.SlSortCmp.QuietGrown
import Derived.Test.YtpkpkpiphgjbaaaGreatDoorRows
import Derived.Test.YtpkpkpiphgjbaaaGreatDoorJcl2
import Derived.Test.YtpkpkpiphgjbaaaGreatDoorJcl3
import Derived.BigQuiet
namespace Go.Proofs.YtpkpkpiphgjbaaaGreatDoor
open Go.RowKit Go.Sort
set_option maxRecDepth 100000

/-- The world has drawn, and blocks have been laid behind it; no more. -/
def Grew (w w' : World) : Prop := ∃ q os, w' = grow (w.drewN q) os
theorem Grew.refl (w : World) : Grew w w := ⟨0, #[], by rw [grow_empty]; rfl⟩
theorem Grew.trans {a b c : World} (h : Grew a b) (k : Grew b c) : Grew a c := by
  obtain ⟨q, os, rfl⟩ := h
  obtain ⟨r, ps, rfl⟩ := k
  refine ⟨q + r, os ++ ps, ?_⟩
  show grow (grow ((a.drewN q).drewN r) os) ps = _
  rw [grow_grow, World.drewN_drewN]
theorem Grew.alloc {w v : World} (h : Grew w v) (o : Obj) : Grew w (v.alloc o) := h.trans ⟨0, #[o], rfl⟩
theorem Grew.below {w w' : World} (h : Grew w w') : Below w.heap.size w w' := by
  obtain ⟨q, os, rfl⟩ := h
  refine ⟨rfl, rfl, rfl, by simp [grow], fun i hi => ?_⟩
  show ((w.drewN q).heap ++ os)[i]? = _
  rw [Array.getElem?_append_left (by show i < w.heap.size; omega)]
  rfl
theorem Grew.drew (w : World) (q : Nat) : Grew w (w.drewN q) := ⟨q, #[], by rw [grow_empty]⟩

theorem byteTypesM : ByteTypes Tryz.prog 63 5 9 := ⟨Tryz.underlying63, Tryz.underlying5, Tryz.underlying9, by kernel_rfl⟩
/-- 'string([]byte{c})'. -/
theorem one_text (w : World) (y : Int) (c : UInt8) (h : y = (c.toNat : Int)) :
    (convert 63 9 (.slice (some ⟨w.heap.size, 0, none⟩) 1 1)).run Tryz.prog (w.alloc (.cells #[.int .u8 y] 5)) = .ok (.string (txt [c])) (w.alloc (.cells #[.int .u8 y] 5)) := by
  subst h
  have := run_convert_bytes_arg (P := Tryz.prog) (w.alloc (.cells #[.int .u8 (c.toNat : Int)] 5)) 63 5 byteTypesM.sl byteTypesM.el w.heap.size 0 1 1 [(c.toNat : Int)] rfl (fun i hi => by
    obtain rfl : i = 0 := by omega
    rw [World.cell?_alloc_new]; rfl) 9 byteTypesM.str
  rw [this, show ([(c.toNat : Int)] : List Int) = [c].map (fun c => (c.toNat : Int)) from rfl, strOfNums_bytes]

/-- What is left to be told, and what is told already. -/
structure DecsAt (n m : Nat) (l : List UInt8) : Prop where
  is : decD n = decD m ++ l
theorem txt_app (l k : List UInt8) : txt l ++ txt k = txt (l ++ k) := by
  apply ByteArray.ext
  apply Array.ext'
  simp [txt]

set_option maxHeartbeats 1000000 in
set_option maxRecDepth 100000 in
theorem refDigits_any (n : Nat) (w : World) (hn : n < 18446744073709551616) :
    Calls Tryz.prog 85 #[.int .u64 n] w fun e w' => e = .returned (.string (txt (decD n))) ∧ Grew w w' := by
  go_enter Tryz.func85, Tryz.ntmps85
  go_wp2_with fail
  go_loopw [0, 3] (fun a v wr => ∃ (m : Nat) (l : List UInt8), m ≤ n ∧ a = .int .u64 m ∧ v = .string (txt l) ∧ DecsAt n m l ∧ Grew w wr) (fun a _ _ => (intOf a).toNat)
  case atStart => exact ⟨n, [], Nat.le_refl _, rfl, rfl, ⟨by rw [List.append_nil]⟩, Grew.refl _⟩
  case round =>
    obtain ⟨m, l, hm, rfl, rfl, hd, hb⟩ := hrel
    rename World => wr
    have hl : (txt l).size ≤ 20 := by
      have h1 := congrArg List.length hd.is
      rw [List.length_append] at h1
      have h2 := decD_len (n := n) (k := 20) (by omega) (by decide)
      rw [txt_size]; omega
    have hone : ∀ c : UInt8, (txt [c]).size = 1 := fun c => rfl
    by_cases hg : m < 10
    · have E : Hid (decD n = [dgB m] ++ l) := hide (by rw [hd.is, decD_small hg])
      have hcv := one_text wr (48 + (m : Int)) (dgB m) (by rw [dgB_toNat hg]; omega)
      have hg' : (m : Int) ≤ 9 := by omega
      have hg0 : 0 ≤ (m : Int) := by omega
      have HCV := hide hcv
      clear hd hg hn hm hcv
      generalize (m : Int) = x at *
      go_wp2_with fail
      rw [HCV.out]
      clear HCV
      go_wp2_with fail
      go_ret
      refine ⟨ret_str ?_, hb.alloc _⟩
      rw [E.out, txt_app]
    · have E : DecsAt n (m / 10) ([dgB (m % 10)] ++ l) := ⟨by rw [hd.is, decD_great hg, List.append_assoc]⟩
      have hcv := one_text wr (48 + (m : Int) % 10) (dgB (m % 10)) (by rw [dgB_toNat (by omega)]; omega)
      have hg' : 9 < (m : Int) := by omega
      have hx : (m : Int) < 18446744073709551616 := by omega
      have HM : Hid (m / 10 ≤ n ∧ 9 < m) := ⟨by omega, by omega⟩
      have HX : Hid ((m : Int) / 10 = ((m / 10 : Nat) : Int) ∧ (m : Int) = (m : Int)) := ⟨by omega, rfl⟩
      have HT := hide (txt_app [dgB (m % 10)] l)
      have hxx : Hid ((m : Int).toNat = m) := by show _ = _; omega
      have HCV := hide hcv
      clear hd hg hn hm hcv
      generalize (m : Int) = x at *
      go_wp2_with fail
      rw [HCV.out]
      clear HCV
      go_wp2_with fail
      go_roundw
      case rel => exact ⟨m / 10, [dgB (m % 10)] ++ l, HM.out.1, by rw [HX.out.1], by rw [HT.out], E, hb.alloc _⟩
      case measure =>
        have h1 := hxx.out
        have h2 := HX.out.1
        have h3 := HM.out.2
        simp [intOf]; omega


theorem pad_more {n k j : Nat} (_h : j + (decD n).length < k) : txt [48] ++ txt (List.replicate j 48 ++ decD n) = txt (List.replicate (j + 1) 48 ++ decD n) := by
  rw [txt_app, List.replicate_succ]; rfl

set_option maxHeartbeats 1000000 in
theorem pad_any (n k : Nat) (w : World) (hn : n < 1000000000) (hk : k ≤ 4) :
    Calls Tryz.prog 88 #[.int .i64 n, .int .i64 k] w fun e w' => e = .returned (.string (txt (padL n k))) ∧ Grew w w' := by
  have hD := fun w => refDigits_any n w (by omega)
  have hlen := decD_len (n := n) (k := 9) (by omega) (by decide)
  have hP : Hid (padL n k = List.replicate (k - (decD n).length) 48 ++ decD n) := rfl
  have HQ := hide (fun j => pad_more (n := n) (k := k) (j := j))
  have hZ := fun j : Nat => (show (txt (List.replicate j 48 ++ decD n)).size = j + (decD n).length by rw [txt_size, List.length_append, List.length_replicate])
  have x1 : 0 ≤ (n : Int) := by omega
  have x2 : (n : Int) < 1000000000 := by omega
  have k2 : (k : Int) ≤ 4 := by omega
  have e0 : txt (decD n) = txt (List.replicate 0 48 ++ decD n) := rfl
  rw [e0] at hD
  have HD := hide hD
  have HZ := hide hZ
  clear hD hn e0 hZ
  generalize (n : Int) = x at *
  go_enter Tryz.func88, Tryz.ntmps88
  go_wp2_with fail
  refine (HD.out _).mono ?_
  rintro e v1 ⟨rfl, g1⟩
  go_wp2_with fail
  go_loop [5] (fun a => ∃ j : Nat, a = .string (txt (List.replicate j 48 ++ decD n)) ∧ j ≤ k - (decD n).length) (fun a => match a with | .string t => k - t.size | _ => 0)
  case atStart => exact ⟨0, rfl, Nat.zero_le _⟩
  case round =>
    obtain ⟨j, rfl, hj⟩ := hrel
    have hz := HZ.out j
    have hz1 := HZ.out (j + 1)
    have hq := HQ.out j
    by_cases hlt : j + (decD n).length < k
    · have hq2 := hide (hq hlt)
      generalize txt (List.replicate j 48 ++ decD n) = t at *
      have t1 : (t.size : Int) < (k : Int) := by omega
      have t2 : (⟨#[48]⟩ : ByteArray).size = 1 := rfl
      have HJ : Hid (j + 1 ≤ k - (decD n).length ∧ t.size < k ∧ t.size + 1 = j + 1 + (decD n).length) := ⟨by omega, by omega, by omega⟩
      clear hq
      go_wp2_with fail
      go_round
      case rel => exact ⟨j + 1, by first | (rw [← hq2.out]; rfl) | (show Value.string (txt [48] ++ t) = _; rw [hq2.out]), HJ.out.1⟩
      case measure =>
        have := HJ.out
        have e : (⟨#[48]⟩ ++ t : ByteArray).size = t.size + 1 := by rw [ByteArray.size_append, t2]; omega
        simp only [e]; omega
    · have hj2 : j = k - (decD n).length := by omega
      have E : Hid (txt (padL n k) = txt (List.replicate j 48 ++ decD n)) := by show _ = _; rw [hP.out, hj2]
      generalize txt (List.replicate j 48 ++ decD n) = t at *
      have t1 : (k : Int) ≤ (t.size : Int) := by omega
      clear hq hj2 hz1 hz hj hlt
      go_wp2_with fail
      go_ret
      exact ⟨ret_str E.out.symm, g1⟩

end Go.Proofs.YtpkpkpiphgjbaaaGreatDoor

namespace Go.Proofs.YtpkpkpiphgjbaaaGreatDoor
open Go.RowKit Go.Sort
set_option maxRecDepth 100000

theorem cell3 (w : World) (a b c : Value) (t : TypeId) (i : Nat) (v : Value) (h : #[a, b, c][i]? = some v) : (w.alloc (.cells #[a, b, c] t)).cell? ⟨w.heap.size, i, none⟩ = some v := by
  have hi : i < 3 := by
    rcases Nat.lt_or_ge i 3 with g | g
    · exact g
    · rw [Array.getElem?_eq_none (by first | (simp; done) | (simp; omega))] at h; cases h
  rw [World.cell?_alloc_at _ _ _ _ (by first | (simp; done) | (simp; omega))]
  exact h

set_option maxHeartbeats 1000000 in
theorem dayTxt_any (y m d : Nat) (w : World) (hy : y < 1000000000) (hm : m < 100) (hd : d < 100) :
    Calls Tryz.prog 87 #[.agg #[.int .i64 y, .int .i64 m, .int .i64 d]] w fun e w' => e = .returned (.string (txt (dateL y m d))) ∧ Grew w w' := by
  have hmix : Tryz.prog.follows .mixedOrders = true := by kernel_rfl
  have hA : ∀ w, Calls Tryz.prog 88 #[.int .i64 y, .int .i64 4] w fun e w' => e = .returned (.string (txt (padL y 4))) ∧ ∃ q os, w' = grow (w.drewN q) os := fun w => pad_any y 4 w hy (by decide)
  have hB : ∀ w, Calls Tryz.prog 88 #[.int .i64 m, .int .i64 2] w fun e w' => e = .returned (.string (txt (padL m 2))) ∧ ∃ q os, w' = grow (w.drewN q) os := fun w => pad_any m 2 w (by omega) (by decide)
  have hC : ∀ w, Calls Tryz.prog 88 #[.int .i64 d, .int .i64 2] w fun e w' => e = .returned (.string (txt (padL d 2))) ∧ ∃ q os, w' = grow (w.drewN q) os := fun w => pad_any d 2 w (by omega) (by decide)
  have z1 : (txt (padL y 4)).size ≤ 9 := by rw [txt_size]; exact pad_most (k := 9) (by omega) (by decide) (by decide)
  have z2 : (txt (padL m 2)).size ≤ 2 := by rw [txt_size]; exact pad_most (k := 2) (by omega) (by decide) (by decide)
  have z3 : (txt (padL d 2)).size ≤ 2 := by rw [txt_size]; exact pad_most (k := 2) (by omega) (by decide) (by decide)
  have E : Hid (txt (dateL y m d) = txt (padL y 4) ++ ⟨#[45]⟩ ++ txt (padL m 2) ++ ⟨#[45]⟩ ++ txt (padL d 2)) := by
    show _ = _
    unfold dateL
    rw [show (⟨#[45]⟩ : ByteArray) = txt [45] from rfl, txt_app, txt_app, txt_app, txt_app]
    simp
  have c0 := cell3 w (.int .i64 y) (.int .i64 m) (.int .i64 d) 94 0 _ rfl
  have c1 := cell3 w (.int .i64 y) (.int .i64 m) (.int .i64 d) 94 1 _ rfl
  have c2 := cell3 w (.int .i64 y) (.int .i64 m) (.int .i64 d) 94 2 _ rfl
  have g0 := fun n os => cell_grown (by show w.heap.size < _; simp) c0 n os
  have g1 := fun n os => cell_grown (by show w.heap.size < _; simp) c1 n os
  have g2 := fun n os => cell_grown (by show w.heap.size < _; simp) c2 n os
  generalize txt (padL y 4) = a at *
  generalize txt (padL m 2) = b at *
  generalize txt (padL d 2) = c at *
  have HA := hide hA
  have HB := hide hB
  have HC := hide hC
  have ze : (⟨#[45]⟩ : ByteArray).size = 1 := rfl
  have p1 := fun w => run_string_add_sum (P := Tryz.prog) w a ⟨#[45]⟩ (by omega)
  have p2 := fun w => run_string_add_sum (P := Tryz.prog) w (a ++ ⟨#[45]⟩) b (by rw [ByteArray.size_append]; omega)
  have p3 := fun w => run_string_add_sum (P := Tryz.prog) w (a ++ ⟨#[45]⟩ ++ b) ⟨#[45]⟩ (by rw [ByteArray.size_append, ByteArray.size_append]; omega)
  have p4 := fun w => run_string_add_sum (P := Tryz.prog) w (a ++ ⟨#[45]⟩ ++ b ++ ⟨#[45]⟩) c (by rw [ByteArray.size_append, ByteArray.size_append, ByteArray.size_append]; omega)
  clear ze z1 z2 z3
  generalize a ++ ⟨#[45]⟩ ++ b ++ ⟨#[45]⟩ ++ c = s4 at *
  generalize a ++ ⟨#[45]⟩ ++ b ++ ⟨#[45]⟩ = s3 at *
  generalize a ++ ⟨#[45]⟩ ++ b = s2 at *
  generalize a ++ ⟨#[45]⟩ = s1 at *
  have Q1 := hide p1
  have Q2 := hide p2
  have Q3 := hide p3
  have Q4 := hide p4
  clear p1 p2 p3 p4
  clear hA hB hC c0 c1 c2 hy hm hd
  generalize (y : Int) = Y at *
  generalize (m : Int) = M at *
  generalize (d : Int) = D at *
  go_enter Tryz.func87, Tryz.ntmps87
  go_wp2
  have p1 := Q1.out
  have p2 := Q2.out
  have p3 := Q3.out
  have p4 := Q4.out
  clear Q1 Q2 Q3 Q4
  go_quiet_grown (first | with_reducible exact Calls.grown_of (HA.out _) | with_reducible exact Calls.grown_of (HB.out _) | with_reducible exact Calls.grown_of (HC.out _))
  go_wp2
  go_ret
  exact ⟨ret_str E.out.symm, Grew.trans ((Grew.refl w).alloc _) ⟨nq, osq, rfl⟩⟩

end Go.Proofs.YtpkpkpiphgjbaaaGreatDoor

namespace Go.Proofs.YtpkpkpiphgjbaaaGreatDoor
open Go.RowKit Go.Sort
set_option maxRecDepth 100000

/-- Without the noughts at its end. -/
def tz (l : List UInt8) : List UInt8 := (l.reverse.dropWhile (· == 48)).reverse
theorem tz_snoc (p : List UInt8) (c : UInt8) : tz (p ++ [c]) = if c = 48 then tz p else p ++ [c] := by
  unfold tz
  rw [List.reverse_append]
  show (List.dropWhile _ (c :: p.reverse)).reverse = _
  rw [List.dropWhile_cons]
  by_cases h : c = 48
  · subst h; simp
  · simp [h]
theorem tz_nil : tz [] = [] := rfl
theorem dgB_0 {n : Nat} (h : n < 10) : dgB n = 48 ↔ n = 0 := by
  constructor
  · intro e
    have := congrArg UInt8.toNat e
    rw [dgB_toNat h] at this
    have t : (48 : UInt8).toNat = 48 := rfl
    omega
  · intro e; subst e; rfl
theorem pad_3 {n : Nat} (h : n < 1000) : padL n 3 = [dgB (n / 100), dgB (n / 10 % 10), dgB (n % 10)] := by
  unfold padL
  by_cases h1 : n < 10
  · rw [decD_small h1, show n / 100 = 0 by omega, show n / 10 % 10 = 0 by omega, show n % 10 = n by omega]; rfl
  · by_cases h2 : n < 100
    · rw [decD_great h1, decD_small (show n / 10 < 10 by omega), show n / 100 = 0 by omega, show n / 10 % 10 = n / 10 by omega]; rfl
    · rw [decD_great h1, decD_great (show ¬ n / 10 < 10 by omega), decD_small (show n / 10 / 10 < 10 by omega), show n / 10 / 10 = n / 100 by omega]; rfl
theorem tz_pad {n : Nat} (h : n < 1000) (h0 : n ≠ 0) : tz (padL n 3) = fracD 3 n := by
  rw [pad_3 h]
  have e : [dgB (n / 100), dgB (n / 10 % 10), dgB (n % 10)] = ([dgB (n / 100)] ++ [dgB (n / 10 % 10)]) ++ [dgB (n % 10)] := rfl
  have e1 : [dgB (n / 100)] = [] ++ [dgB (n / 100)] := rfl
  rw [e, tz_snoc]
  unfold fracD fracD fracD fracD
  rw [if_neg h0]
  by_cases c : n % 10 = 0
  · rw [if_pos ((dgB_0 (by omega)).2 c), tz_snoc]
    by_cases b : n / 10 % 10 = 0
    · rw [if_pos ((dgB_0 (by omega)).2 b), e1, tz_snoc, if_neg (fun x => by have := (dgB_0 (by omega)).1 x; omega), if_pos (by omega)]; rfl
    · rw [if_neg (fun x => b ((dgB_0 (by omega)).1 x)), if_neg (by omega), if_pos (by omega), show n % 10 ^ 2 / 10 ^ 1 = n / 10 % 10 by omega]; rfl
  · rw [if_neg (fun x => c ((dgB_0 (by omega)).1 x)), if_neg (by omega), if_neg (by omega), show n % 10 ^ 2 / 10 ^ 1 = n / 10 % 10 by omega, show n % 10 ^ 2 % 10 ^ 1 / 10 ^ 0 = n % 10 by omega]; rfl
theorem last_at (p : List UInt8) (c : UInt8) (w : World) : (Instr.index 9 (.string (txt (p ++ [c]))) (.int .i64 (((txt (p ++ [c])).size : Int) - 1))).run Tryz.prog w = .ok (.int .u8 (c.toNat : Int)) w := by
  have hz : (txt (p ++ [c])).size = p.length + 1 := by rw [txt_size]; simp
  rw [run_index_string _ _ _ _ _ Tryz.underlying9, dif_pos ⟨by omega, by omega⟩]
  have e : ((((txt (p ++ [c])).size : Int) - 1)).toNat = p.length := by omega
  have : ∀ (k : Nat) (hk : k < (txt (p ++ [c])).size), k = p.length → ((txt (p ++ [c]))[k]'hk) = c := by
    intro k hk e
    subst e
    have hk2 : p.length < (p ++ [c]).toArray.size := by simp
    have e3 : (p ++ [c]).toArray[p.length]'hk2 = c := by simp
    exact e3
  rw [this _ _ e]
theorem last_cut (p : List UInt8) (c : UInt8) (k : Nat) (h : k = p.length) : (txt (p ++ [c])).extract 0 k = txt p := by
  subst h
  apply ByteArray.ext
  apply Array.ext'
  simp [txt]

set_option maxHeartbeats 2000000 in
theorem clockTxt_any (n : Nat) (w : World) (hn : n < 86400000) :
    Calls Tryz.prog 91 #[.int .i64 n] w fun e w' => e = .returned (.string (txt (clockL n))) ∧ Grew w w' := by
  have hA : ∀ w, Calls Tryz.prog 88 #[.int .i64 ((n : Int) / 3600000), .int .i64 2] w fun e w' => e = .returned (.string (txt (padL (n / 3600000) 2))) ∧ Grew w w' := fun w => by
    have := pad_any (n / 3600000) 2 w (by omega) (by decide)
    rw [show ((n / 3600000 : Nat) : Int) = (n : Int) / 3600000 by omega] at this; exact this
  have hB : ∀ w, Calls Tryz.prog 88 #[.int .i64 ((n : Int) / 60000 % 60), .int .i64 2] w fun e w' => e = .returned (.string (txt (padL (n / 60000 % 60) 2))) ∧ Grew w w' := fun w => by
    have := pad_any (n / 60000 % 60) 2 w (by omega) (by decide)
    rw [show ((n / 60000 % 60 : Nat) : Int) = (n : Int) / 60000 % 60 by omega] at this; exact this
  have hC : ∀ w, Calls Tryz.prog 88 #[.int .i64 ((n : Int) / 1000 % 60), .int .i64 2] w fun e w' => e = .returned (.string (txt (padL (n / 1000 % 60) 2))) ∧ Grew w w' := fun w => by
    have := pad_any (n / 1000 % 60) 2 w (by omega) (by decide)
    rw [show ((n / 1000 % 60 : Nat) : Int) = (n : Int) / 1000 % 60 by omega] at this; exact this
  have hD : ∀ w, Calls Tryz.prog 88 #[.int .i64 ((n : Int) % 1000), .int .i64 3] w fun e w' => e = .returned (.string (txt (padL (n % 1000) 3))) ∧ Grew w w' := fun w => by
    have := pad_any (n % 1000) 3 w (by omega) (by decide)
    rw [show ((n % 1000 : Nat) : Int) = (n : Int) % 1000 by omega] at this; exact this
  have z1 : (txt (padL (n / 3600000) 2)).size ≤ 2 := by rw [txt_size]; exact pad_most (k := 2) (by omega) (by decide) (by decide)
  have z2 : (txt (padL (n / 60000 % 60) 2)).size ≤ 2 := by rw [txt_size]; exact pad_most (k := 2) (by omega) (by decide) (by decide)
  have z3 : (txt (padL (n / 1000 % 60) 2)).size ≤ 2 := by rw [txt_size]; exact pad_most (k := 2) (by omega) (by decide) (by decide)
  have zc : (⟨#[58]⟩ : ByteArray).size = 1 := rfl
  have zp : (⟨#[46]⟩ : ByteArray).size = 1 := rfl
  have ec : (⟨#[58]⟩ : ByteArray) = txt [58] := rfl
  have ep : (⟨#[46]⟩ : ByteArray) = txt [46] := rfl
  have hr : n % 1000 ≠ 0 → tz (padL (n % 1000) 3) = fracD 3 (n % 1000) := tz_pad (by omega)
  have hf := pad_3 (show n % 1000 < 1000 by omega)
  have E1 : Hid (n % 60000 = 0 → txt (clockL n) = txt (padL (n / 3600000) 2) ++ ⟨#[58]⟩ ++ txt (padL (n / 60000 % 60) 2)) := fun h => by
    unfold clockL; rw [if_pos h, ec, txt_app, txt_app]; simp
  have E2 : Hid (n % 60000 ≠ 0 → n % 1000 = 0 → txt (clockL n) = txt (padL (n / 3600000) 2) ++ ⟨#[58]⟩ ++ txt (padL (n / 60000 % 60) 2) ++ (⟨#[58]⟩ ++ txt (padL (n / 1000 % 60) 2))) := fun h h' => by
    unfold clockL; rw [if_neg h, if_pos h', ec, txt_app, txt_app, txt_app, txt_app]; simp
  have E3 : Hid (n % 60000 ≠ 0 → n % 1000 ≠ 0 → txt (clockL n) = txt (padL (n / 3600000) 2) ++ ⟨#[58]⟩ ++ txt (padL (n / 60000 % 60) 2) ++ (⟨#[58]⟩ ++ txt (padL (n / 1000 % 60) 2)) ++ ⟨#[46]⟩ ++ txt (fracD 3 (n % 1000))) := fun h h' => by
    unfold clockL; rw [if_neg h, if_neg h', ec, ep, txt_app, txt_app, txt_app, txt_app, txt_app, txt_app]; simp
  clear ec ep
  generalize txt (padL (n / 3600000) 2) = a at *
  generalize txt (padL (n / 60000 % 60) 2) = b at *
  generalize txt (padL (n / 1000 % 60) 2) = c at *
  have x1 : 0 ≤ (n : Int) := by omega
  have x2 : (n : Int) < 86400000 := by omega
  have HA := hide hA
  have HB := hide hB
  have HC := hide hC
  have HD := hide hD
  clear hA hB hC hD
  by_cases h1 : n % 60000 = 0
  · have E := hide (E1.out h1)
    have t1 : ((n : Int) % 60000 == 0) = true := beq_yes (by omega)
    clear E1 E2 E3 h1 hr hf hn
    generalize (n : Int) = x at *
    go_enter Tryz.func91, Tryz.ntmps91
    go_wp2_with fail
    refine (HA.out _).mono ?_
    rintro e v1 ⟨rfl, g1⟩
    go_wp2_with fail
    refine (HB.out _).mono ?_
    rintro e v2 ⟨rfl, g2⟩
    go_wp2_with fail
    go_ret
    exact ⟨ret_str E.out.symm, g1.trans g2⟩
  · have t1 : ((n : Int) % 60000 == 0) = false := beq_no (by omega)
    by_cases h2 : n % 1000 = 0
    · have E := hide (E2.out h1 h2)
      have t2 : ((n : Int) % 1000 == 0) = true := beq_yes (by omega)
      clear E1 E2 E3 h1 h2 hr hf hn
      generalize (n : Int) = x at *
      go_enter Tryz.func91, Tryz.ntmps91
      go_wp2_with fail
      refine (HA.out _).mono ?_
      rintro e v1 ⟨rfl, g1⟩
      go_wp2_with fail
      refine (HB.out _).mono ?_
      rintro e v2 ⟨rfl, g2⟩
      go_wp2_with fail
      refine (HC.out _).mono ?_
      rintro e v3 ⟨rfl, g3⟩
      go_wp2_with fail
      go_ret
      exact ⟨ret_str E.out.symm, (g1.trans g2).trans g3⟩
    · have E := hide (E3.out h1 h2)
      have t2 : ((n : Int) % 1000 == 0) = false := beq_no (by omega)
      have HR := hide (hr h2)
      have HF := hide hf
      have HE := hide (fun e => h2 ((fracD_nil (p := 3) (m := n % 1000) (by omega)).1 e))
      clear E1 E2 E3 h1 h2 hr hf hn
      generalize n % 1000 = r at *
      generalize (n : Int) = x at *
      go_enter Tryz.func91, Tryz.ntmps91
      go_wp2_with fail
      refine (HA.out _).mono ?_
      rintro e v1 ⟨rfl, g1⟩
      go_wp2_with fail
      refine (HB.out _).mono ?_
      rintro e v2 ⟨rfl, g2⟩
      go_wp2_with fail
      refine (HC.out _).mono ?_
      rintro e v3 ⟨rfl, g3⟩
      go_wp2_with fail
      refine (HD.out _).mono ?_
      rintro e v4 ⟨rfl, g4⟩
      go_wp2_with fail
      go_loop [4] (fun v => ∃ (p : List UInt8) (d : UInt8), v = .string (txt (p ++ [d])) ∧ p.length ≤ 2 ∧ Hid (tz (p ++ [d]) = fracD 3 r)) (fun v => match v with | .string t => t.size | _ => 0)
      case atStart => exact ⟨[dgB (r / 100), dgB (r / 10 % 10)], dgB (r % 10), by rw [HF.out]; rfl, by simp, hide (by rw [← HR.out, HF.out]; rfl)⟩
      case round =>
        obtain ⟨p, d, rfl, hp, hT⟩ := hrel
        have hix := last_at p d
        have hz : (txt (p ++ [d])).size = p.length + 1 := by rw [txt_size]; simp
        have hts := tz_snoc p d
        by_cases hd : d = 48
        · rw [if_pos hd] at hts
          have hpn : p ≠ [] := fun e => by
            have := hT.out
            rw [hts, e, tz_nil] at this
            exact HE.out this.symm
          obtain ⟨p', d', rfl⟩ : ∃ p' d', p = p' ++ [d'] := ⟨p.dropLast, p.getLast hpn, (List.dropLast_concat_getLast hpn).symm⟩
          have hN : Hid (tz (p' ++ [d']) = fracD 3 r) := by show _ = _; rw [← hts]; exact hT.out
          have hd2 : ((d.toNat : Int) == 48) = true := by subst hd; rfl
          have hcut := last_cut (p' ++ [d']) d
          have hpl : p'.length ≤ 1 := by simp at hp; omega
          have hz2 : (txt (p' ++ [d'])).size = p'.length + 1 := by rw [txt_size]; simp
          have hz3 : (txt (p' ++ [d'] ++ [d])).size = p'.length + 2 := by rw [hz]; simp
          have hl2 : (p' ++ [d']).length = p'.length + 1 := by simp
          have HCU := hide hcut
          have HL := hide hl2
          clear hts hpn hT hd hp hcut hz hl2
          generalize txt (p' ++ [d'] ++ [d]) = t at *
          have t3 : 2 ≤ t.size := by omega
          have t4 : t.size ≤ 3 := by omega
          have HZ := hide (show t.size = p'.length + 2 ∧ (txt (p' ++ [d'])).size = p'.length + 1 from ⟨hz3, hz2⟩)
          clear hz3 hz2
          go_wp2_with fail
          go_round
          case rel => exact ⟨p', d', by rw [HCU.out _ (by rw [HL.out]; have := HZ.out.1; omega)], by omega, hN⟩
          case measure => rw [HCU.out _ (by rw [HL.out]; have := HZ.out.1; omega)]; simp only [HZ.out.1, HZ.out.2]; omega
        · rw [if_neg hd] at hts
          have hE : Hid (txt (p ++ [d]) = txt (fracD 3 r)) := by show _ = _; rw [← hts, hT.out]
          have hd2 : ((d.toNat : Int) == 48) = false := beq_no (fun e => hd (UInt8.toNat_inj.1 (show d.toNat = 48 by omega)))
          clear hts hT hd
          have E' : Hid (txt (clockL n) = a ++ ⟨#[58]⟩ ++ b ++ (⟨#[58]⟩ ++ c) ++ ⟨#[46]⟩ ++ txt (p ++ [d])) := by show _ = _; rw [E.out, hE.out]
          generalize txt (p ++ [d]) = t at *
          have t3 : 1 ≤ t.size := by omega
          have t4 : t.size ≤ 3 := by omega
          clear hz
          go_wp2_with fail
          go_ret
          exact ⟨ret_str E'.out.symm, ((g1.trans g2).trans g3).trans g4⟩

end Go.Proofs.YtpkpkpiphgjbaaaGreatDoor

namespace Go.Proofs.YtpkpkpiphgjbaaaGreatDoor
open Go.RowKit Go.Sort
set_option maxRecDepth 100000

theorem quo_neg {n s : Int} (h : n < 0) (hs : 1 ≤ s) : (n % s = 0 → n / s = n.tdiv s) ∧ (0 < n % s → n / s = n.tdiv s - 1) := by
  have e := Int.emod_add_mul_ediv n s
  have f := Int.tmod_add_mul_tdiv n s
  have ⟨a1, a2⟩ := left_at (n := n) hs
  have b := left_less (n := n) hs
  have g := (show s * (n / s - n.tdiv s) = n.tmod s - n % s by rw [Int.mul_sub]; omega)
  constructor
  · intro h0
    rcases Int.lt_or_le (n.tmod s) 0 with x | x
    · have := a2 x; omega
    · have := a1 x
      have z : s * (n / s - n.tdiv s) = 0 := by omega
      rcases Int.mul_eq_zero.1 z with y | y
      · omega
      · omega
  · intro h0
    rcases Int.lt_or_le (n.tmod s) 0 with x | x
    · have := a2 x
      have z : s * (n / s - n.tdiv s + 1) = 0 := by rw [Int.mul_add, g]; omega
      rcases Int.mul_eq_zero.1 z with y | y
      · omega
      · omega
    · have y := a1 x
      have := left_bounds (n := n) (s := s) (by omega) h
      omega
/-- How a number of a day is told: a sign, and what is left. -/
theorem quo_cases (n : Int) {s : Int} (hs : 1 ≤ s) : (0 ≤ n) ∨ (n < 0 ∧ n % s = 0 ∧ n / s = n.tdiv s) ∨ (n < 0 ∧ 0 < n % s ∧ n / s = n.tdiv s - 1) := by
  by_cases h : 0 ≤ n
  · exact .inl h
  · have ⟨a, b⟩ := quo_neg (n := n) (s := s) (by omega) hs
    have c := left_less (n := n) hs
    by_cases z : n % s = 0
    · exact .inr (.inl ⟨by omega, z, a z⟩)
    · exact .inr (.inr ⟨by omega, by omega, b (by omega)⟩)
theorem chain_alloc {w v : World} (h : Below w.heap.size w v) (o : Obj) : Below w.heap.size w (v.alloc o) := h.alloc h.size o
theorem ret_show {a b : ByteArray} {e : Int} (h : a = b) : Ending.returned (.tuple #[.string a, .int .i64 e]) = .returned (.tuple #[.string b, .int .i64 e]) := by rw [h]
theorem dateL_size {k : Int} {y m d : Nat} (h : IsDay k y m d) : (txt (dateL y m d)).size ≤ 20 := by
  have := h.y2; have := h.m2; have := h.d2; have := len_bounds y m
  have a := pad_most (n := y) (w := 4) (k := 9) (by omega) (by decide) (by decide)
  have b := pad_most (n := m) (w := 2) (k := 2) (by omega) (by decide) (by decide)
  have c := pad_most (n := d) (w := 2) (k := 2) (by omega) (by decide) (by decide)
  rw [txt_size]; unfold dateL
  simp only [List.length_append, List.length_cons]; omega
theorem clockL_size {n : Nat} (h : n < 86400000) : (txt (clockL n)).size ≤ 20 := by
  have a := pad_most (n := n / 3600000) (w := 2) (k := 2) (by omega) (by decide) (by decide)
  have b := pad_most (n := n / 60000 % 60) (w := 2) (k := 2) (by omega) (by decide) (by decide)
  have c := pad_most (n := n / 1000 % 60) (w := 2) (k := 2) (by omega) (by decide) (by decide)
  have d := fracD_len 3 (n % 1000)
  rw [txt_size]; unfold clockL
  by_cases h1 : n % 60000 = 0
  · rw [if_pos h1]; simp only [List.length_append, List.length_cons, List.length_nil]; omega
  · rw [if_neg h1]
    by_cases h2 : n % 1000 = 0
    · rw [if_pos h2]; simp only [List.length_append, List.length_cons, List.length_nil]; omega
    · rw [if_neg h2]; simp only [List.length_append, List.length_cons]; omega

set_option maxHeartbeats 4000000 in
theorem refShow1_yes (n : Int) (k : Int) (y m d : Nat) (h : IsDay k y m d) (hN : k = n / 86400000) (h0 : n % 86400000 = 0) (w : World) (n1 : -9223372036854775808 ≤ n) (n2 : n ≤ 9223372036854775807) :
    Calls Tryz.prog 57 #[.int .i64 1, .int .i64 n] w fun e w' => e = .returned (.tuple #[.string (txt (dateL y m d)), .int .i64 0]) ∧ Below w.heap.size w w' := by
  have hL := fun w => refLeft_any n 86400000 w n1 n2 (by decide) (by decide)
  have HL := hide hL
  clear hL
  have hD := fun w => refDate_in k y m d w h
  unfold dayR at hD
  have hT := fun w => dayTxt_any y m d w (by have := h.y2; omega) (by have := h.m2; omega) (by have := h.d2; have := len_bounds y m; omega)
  have kb := h.bounds
  have HD := hide hD
  have HT := hide hT
  clear hD hT h
  rcases quo_cases n (s := 86400000) (by decide) with z | ⟨z, z0, zq⟩ | ⟨z, z0, zq⟩
  · obtain rfl : k = n / 86400000 := hN
    generalize n % 86400000 = r at *
    generalize (y : Int) = Y at *
    generalize (m : Int) = M at *
    generalize (d : Int) = D at *
    have r0 : (r == 0) = true := beq_yes (by omega)
    go_enter Tryz.func57, Tryz.ntmps57
    go_wp2_with fail
    refine (HL.out _).mono ?_
    rintro e u1 ⟨rfl, rfl⟩
    go_wp2_with fail
    refine (HD.out _).mono ?_
    rintro e v1 ⟨rfl, b1⟩
    go_wp2_with fail
    refine (HT.out _).mono ?_
    rintro e v2 ⟨rfl, g2⟩
    go_wp2_with fail
    go_ret2
    exact ⟨rfl, chain (chain_alloc b1 _) g2.below⟩
  · obtain rfl : k = n.tdiv 86400000 := hN.trans zq
    clear hN zq
    generalize n % 86400000 = r at *
    have z1 : r ≤ 0 := by omega
    have z2 : 0 ≤ r := by omega
    clear z0
    generalize (y : Int) = Y at *
    generalize (m : Int) = M at *
    generalize (d : Int) = D at *
    have r0 : (r == 0) = true := beq_yes (by omega)
    go_enter Tryz.func57, Tryz.ntmps57
    go_wp2_with fail
    refine (HL.out _).mono ?_
    rintro e u1 ⟨rfl, rfl⟩
    go_wp2_with fail
    refine (HD.out _).mono ?_
    rintro e v1 ⟨rfl, b1⟩
    go_wp2_with fail
    refine (HT.out _).mono ?_
    rintro e v2 ⟨rfl, g2⟩
    go_wp2_with fail
    go_ret2
    exact ⟨rfl, chain (chain_alloc b1 _) g2.below⟩
  · exfalso; omega

set_option maxHeartbeats 4000000 in
theorem refShow1_rest (n : Int) (k : Int) (hN : k = n / 86400000) (h0 : ¬ n % 86400000 = 0) (w : World) (n1 : -9223372036854775808 ≤ n) (n2 : n ≤ 9223372036854775807) :
    Calls Tryz.prog 57 #[.int .i64 1, .int .i64 n] w fun e w' => e = .returned (.tuple #[.string ⟨#[]⟩, .int .i64 2]) ∧ Below w.heap.size w w' := by
  have hL := fun w => refLeft_any n 86400000 w n1 n2 (by decide) (by decide)
  have HL := hide hL
  clear hL
  have rb := left_less (n := n) (s := 86400000) (by decide)
  have kb : -1000000000000 ≤ k ∧ k ≤ 1000000000000 := by omega
  have hD : ∃ a b c e : Int, ∀ w, Calls Tryz.prog 86 #[.int .i64 k] w fun x w' => x = .returned (.tuple #[.agg #[.int .i64 a, .int .i64 b, .int .i64 c], .int .i64 e]) ∧ Below w.heap.size w w' := by
    by_cases g : newV 1 ≤ k ∧ k < newV 275761
    · obtain ⟨y, m, d, hd⟩ := day_some g.1 g.2
      exact ⟨y, m, d, 0, fun w => refDate_in k y m d w hd⟩
    · exact ⟨0, 0, 0, 2, fun w => refDate_out k w (by omega)⟩
  obtain ⟨a, b, c, e, hD⟩ := hD
  have HD := hide hD
  clear hD
  by_cases e0 : (e == 0) = true
  · rcases quo_cases n (s := 86400000) (by decide) with z | ⟨z, z0, zq⟩ | ⟨z, z0, zq⟩
    · obtain rfl : k = n / 86400000 := hN
      generalize n % 86400000 = r at *
      have r0 : (r == 0) = false := beq_no (by omega)
      go_enter Tryz.func57, Tryz.ntmps57
      go_wp2_with fail
      refine (HL.out _).mono ?_
      rintro e u1 ⟨rfl, rfl⟩
      go_wp2_with fail
      refine (HD.out _).mono ?_
      rintro e v1 ⟨rfl, b1⟩
      go_wp2_with fail
      go_ret2
      exact ⟨rfl, chain_alloc b1 _⟩
    · exact absurd z0 h0
    · obtain rfl : k = n.tdiv 86400000 - 1 := hN.trans zq
      clear hN zq
      generalize n % 86400000 = r at *
      have r0 : (r == 0) = false := beq_no (by omega)
      go_enter Tryz.func57, Tryz.ntmps57
      go_wp2_with fail
      refine (HL.out _).mono ?_
      rintro e u1 ⟨rfl, rfl⟩
      go_wp2_with fail
      refine (HD.out _).mono ?_
      rintro e v1 ⟨rfl, b1⟩
      go_wp2_with fail
      go_ret2
      exact ⟨rfl, chain_alloc b1 _⟩
  · have e0 : (e == 0) = false := by simpa using e0
    rcases quo_cases n (s := 86400000) (by decide) with z | ⟨z, z0, zq⟩ | ⟨z, z0, zq⟩
    · obtain rfl : k = n / 86400000 := hN
      generalize n % 86400000 = r at *
      have r0 : (r == 0) = false := beq_no (by omega)
      go_enter Tryz.func57, Tryz.ntmps57
      go_wp2_with fail
      refine (HL.out _).mono ?_
      rintro e u1 ⟨rfl, rfl⟩
      go_wp2_with fail
      refine (HD.out _).mono ?_
      rintro e v1 ⟨rfl, b1⟩
      go_wp2_with fail
      go_ret2
      exact ⟨rfl, chain_alloc b1 _⟩
    · exact absurd z0 h0
    · obtain rfl : k = n.tdiv 86400000 - 1 := hN.trans zq
      clear hN zq
      generalize n % 86400000 = r at *
      have r0 : (r == 0) = false := beq_no (by omega)
      go_enter Tryz.func57, Tryz.ntmps57
      go_wp2_with fail
      refine (HL.out _).mono ?_
      rintro e u1 ⟨rfl, rfl⟩
      go_wp2_with fail
      refine (HD.out _).mono ?_
      rintro e v1 ⟨rfl, b1⟩
      go_wp2_with fail
      go_ret2
      exact ⟨rfl, chain_alloc b1 _⟩

set_option maxHeartbeats 4000000 in
theorem refShow1_out (n : Int) (k : Int) (hN : k = n / 86400000) (h0 : k < newV 1 ∨ newV 275761 ≤ k) (w : World) (n1 : -9223372036854775808 ≤ n) (n2 : n ≤ 9223372036854775807) :
    Calls Tryz.prog 57 #[.int .i64 1, .int .i64 n] w fun e w' => e = .returned (.tuple #[.string ⟨#[]⟩, .int .i64 2]) ∧ Below w.heap.size w w' := by
  have hL := fun w => refLeft_any n 86400000 w n1 n2 (by decide) (by decide)
  have HL := hide hL
  clear hL
  have rb := left_less (n := n) (s := 86400000) (by decide)
  have kb : -1000000000000 ≤ k ∧ k ≤ 1000000000000 := by omega
  have hD := fun w => refDate_out k w h0
  unfold dayR at hD
  have HD := hide hD
  clear hD h0
  rcases quo_cases n (s := 86400000) (by decide) with z | ⟨z, z0, zq⟩ | ⟨z, z0, zq⟩
  · obtain rfl : k = n / 86400000 := hN
    generalize n % 86400000 = r at *
    go_enter Tryz.func57, Tryz.ntmps57
    go_wp2_with fail
    refine (HL.out _).mono ?_
    rintro e u1 ⟨rfl, rfl⟩
    go_wp2_with fail
    refine (HD.out _).mono ?_
    rintro e v1 ⟨rfl, b1⟩
    go_wp2_with fail
    go_ret2
    exact ⟨rfl, chain_alloc b1 _⟩
  · obtain rfl : k = n.tdiv 86400000 := hN.trans zq
    clear hN zq
    generalize n % 86400000 = r at *
    have z1 : r ≤ 0 := by omega
    have z2 : 0 ≤ r := by omega
    clear z0
    go_enter Tryz.func57, Tryz.ntmps57
    go_wp2_with fail
    refine (HL.out _).mono ?_
    rintro e u1 ⟨rfl, rfl⟩
    go_wp2_with fail
    refine (HD.out _).mono ?_
    rintro e v1 ⟨rfl, b1⟩
    go_wp2_with fail
    go_ret2
    exact ⟨rfl, chain_alloc b1 _⟩
  · obtain rfl : k = n.tdiv 86400000 - 1 := hN.trans zq
    clear hN zq
    generalize n % 86400000 = r at *
    go_enter Tryz.func57, Tryz.ntmps57
    go_wp2_with fail
    refine (HL.out _).mono ?_
    rintro e u1 ⟨rfl, rfl⟩
    go_wp2_with fail
    refine (HD.out _).mono ?_
    rintro e v1 ⟨rfl, b1⟩
    go_wp2_with fail
    go_ret2
    exact ⟨rfl, chain_alloc b1 _⟩

set_option maxHeartbeats 4000000 in
theorem refShow5_yes (n : Int) (k : Int) (y m d r0 : Nat) (h : IsDay k y m d) (hN : k = n / 86400000) (h0 : n % 86400000 = r0) (hr0 : r0 < 86400000) (w : World) (n1 : -9223372036854775808 ≤ n) (n2 : n ≤ 9223372036854775807) :
    Calls Tryz.prog 57 #[.int .i64 5, .int .i64 n] w fun e w' => e = .returned (.tuple #[.string (txt (dateL y m d ++ 84 :: clockL r0)), .int .i64 0]) ∧ Below w.heap.size w w' := by
  have hL := fun w => refLeft_any n 86400000 w n1 n2 (by decide) (by decide)
  have HL := hide hL
  clear hL
  have hD := fun w => refDate_in k y m d w h
  unfold dayR at hD
  have hT := fun w => dayTxt_any y m d w (by have := h.y2; omega) (by have := h.m2; omega) (by have := h.d2; have := len_bounds y m; omega)
  have hC := fun w => clockTxt_any r0 w hr0
  rw [← h0] at hC
  have kb := h.bounds
  have z1 := dateL_size h
  have z2 := clockL_size hr0
  have z3 : (⟨#[84]⟩ : ByteArray).size = 1 := rfl
  have E : Hid (txt (dateL y m d ++ 84 :: clockL r0) = txt (dateL y m d) ++ ⟨#[84]⟩ ++ txt (clockL r0)) := by
    show _ = _
    rw [show (⟨#[84]⟩ : ByteArray) = txt [84] from rfl, txt_app, txt_app]; simp
  have rb := left_less (n := n) (s := 86400000) (by decide)
  generalize txt (dateL y m d) = A at *
  generalize txt (clockL r0) = B at *
  have HD := hide hD
  have HT := hide hT
  have HC := hide hC
  clear hD hT hC h h0 hr0
  rcases quo_cases n (s := 86400000) (by decide) with z | ⟨z, z0, zq⟩ | ⟨z, z0, zq⟩
  · obtain rfl : k = n / 86400000 := hN
    generalize n % 86400000 = r at *
    generalize (y : Int) = Y at *
    generalize (m : Int) = M at *
    generalize (d : Int) = D at *
    go_enter Tryz.func57, Tryz.ntmps57
    go_wp2_with fail
    refine (HL.out _).mono ?_
    rintro e u1 ⟨rfl, rfl⟩
    go_wp2_with fail
    refine (HD.out _).mono ?_
    rintro e v1 ⟨rfl, b1⟩
    go_wp2_with fail
    refine (HT.out _).mono ?_
    rintro e v2 ⟨rfl, g2⟩
    go_wp2_with fail
    refine (HC.out _).mono ?_
    rintro e v3 ⟨rfl, g3⟩
    go_wp2_with fail
    go_ret2
    exact ⟨ret_show E.out.symm, chain (chain (chain_alloc b1 _) g2.below) g3.below⟩
  · obtain rfl : k = n.tdiv 86400000 := hN.trans zq
    clear hN zq
    generalize n % 86400000 = r at *
    have z1 : r ≤ 0 := by omega
    have z2 : 0 ≤ r := by omega
    clear z0
    generalize (y : Int) = Y at *
    generalize (m : Int) = M at *
    generalize (d : Int) = D at *
    go_enter Tryz.func57, Tryz.ntmps57
    go_wp2_with fail
    refine (HL.out _).mono ?_
    rintro e u1 ⟨rfl, rfl⟩
    go_wp2_with fail
    refine (HD.out _).mono ?_
    rintro e v1 ⟨rfl, b1⟩
    go_wp2_with fail
    refine (HT.out _).mono ?_
    rintro e v2 ⟨rfl, g2⟩
    go_wp2_with fail
    refine (HC.out _).mono ?_
    rintro e v3 ⟨rfl, g3⟩
    go_wp2_with fail
    go_ret2
    exact ⟨ret_show E.out.symm, chain (chain (chain_alloc b1 _) g2.below) g3.below⟩
  · obtain rfl : k = n.tdiv 86400000 - 1 := hN.trans zq
    clear hN zq
    generalize n % 86400000 = r at *
    generalize (y : Int) = Y at *
    generalize (m : Int) = M at *
    generalize (d : Int) = D at *
    go_enter Tryz.func57, Tryz.ntmps57
    go_wp2_with fail
    refine (HL.out _).mono ?_
    rintro e u1 ⟨rfl, rfl⟩
    go_wp2_with fail
    refine (HD.out _).mono ?_
    rintro e v1 ⟨rfl, b1⟩
    go_wp2_with fail
    refine (HT.out _).mono ?_
    rintro e v2 ⟨rfl, g2⟩
    go_wp2_with fail
    refine (HC.out _).mono ?_
    rintro e v3 ⟨rfl, g3⟩
    go_wp2_with fail
    go_ret2
    exact ⟨ret_show E.out.symm, chain (chain (chain_alloc b1 _) g2.below) g3.below⟩

set_option maxHeartbeats 4000000 in
theorem refShow5_out (n : Int) (k : Int) (hN : k = n / 86400000) (h0 : k < newV 1 ∨ newV 275761 ≤ k) (w : World) (n1 : -9223372036854775808 ≤ n) (n2 : n ≤ 9223372036854775807) :
    Calls Tryz.prog 57 #[.int .i64 5, .int .i64 n] w fun e w' => e = .returned (.tuple #[.string ⟨#[]⟩, .int .i64 2]) ∧ Below w.heap.size w w' := by
  have hL := fun w => refLeft_any n 86400000 w n1 n2 (by decide) (by decide)
  have HL := hide hL
  clear hL
  have rb := left_less (n := n) (s := 86400000) (by decide)
  have kb : -1000000000000 ≤ k ∧ k ≤ 1000000000000 := by omega
  have hD := fun w => refDate_out k w h0
  unfold dayR at hD
  have HD := hide hD
  clear hD h0
  rcases quo_cases n (s := 86400000) (by decide) with z | ⟨z, z0, zq⟩ | ⟨z, z0, zq⟩
  · obtain rfl : k = n / 86400000 := hN
    generalize n % 86400000 = r at *
    go_enter Tryz.func57, Tryz.ntmps57
    go_wp2_with fail
    refine (HL.out _).mono ?_
    rintro e u1 ⟨rfl, rfl⟩
    go_wp2_with fail
    refine (HD.out _).mono ?_
    rintro e v1 ⟨rfl, b1⟩
    go_wp2_with fail
    go_ret2
    exact ⟨rfl, chain_alloc b1 _⟩
  · obtain rfl : k = n.tdiv 86400000 := hN.trans zq
    clear hN zq
    generalize n % 86400000 = r at *
    have z1 : r ≤ 0 := by omega
    have z2 : 0 ≤ r := by omega
    clear z0
    go_enter Tryz.func57, Tryz.ntmps57
    go_wp2_with fail
    refine (HL.out _).mono ?_
    rintro e u1 ⟨rfl, rfl⟩
    go_wp2_with fail
    refine (HD.out _).mono ?_
    rintro e v1 ⟨rfl, b1⟩
    go_wp2_with fail
    go_ret2
    exact ⟨rfl, chain_alloc b1 _⟩
  · obtain rfl : k = n.tdiv 86400000 - 1 := hN.trans zq
    clear hN zq
    generalize n % 86400000 = r at *
    go_enter Tryz.func57, Tryz.ntmps57
    go_wp2_with fail
    refine (HL.out _).mono ?_
    rintro e u1 ⟨rfl, rfl⟩
    go_wp2_with fail
    refine (HD.out _).mono ?_
    rintro e v1 ⟨rfl, b1⟩
    go_wp2_with fail
    go_ret2
    exact ⟨rfl, chain_alloc b1 _⟩

end Go.Proofs.YtpkpkpiphgjbaaaGreatDoor
