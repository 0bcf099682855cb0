/- Joined texts. ShowWalks: The program's Show answers by the function of 'Num'; it changes nothing that was there. Conditions: numbers of 64 bits; the library's table of powers of ten reads as its text lays it. MomRd: The program's reader of a text, in a block of the call's own: what it holds; 'must'. No condition. MomP: The program's way of reading a moment: piece by piece, what is left of the text goes along; each way ends where the document's does. Plain facts of no program. No condition. -/
import Derived.Test.YtpkpkpiphgjbaaaGreatDoorJcl9
import Derived.Test.YtpkpkpiphgjbaaaGreatDoorJcl16
import Derived.Test.YtpkpkpiphgjbaaaGreatDoorJcl17
import Derived.Test.YtpkpkpiphgjbaaaGreatDoorJcl6
import Derived.Test.YtpkpkpiphgjbaaaGreatDoorProg
import Derived.Test.YtpkpkpiphgjbaaaGreatDoorJcl2
import Derived.Test.YtpkpkpiphgjbaaaGreatDoorJcl3
import Derived.Lib.AtoiAll
import Derived.Lib.AtoiAllCases
namespace Go.Proofs.YtpkpkpiphgjbaaaGreatDoor
open Go.RowKit
set_option maxRecDepth 100000

theorem pad_text {r : Nat} (h : r < 1000000) : (txt (decD (1000000 + r))).extract 1 7 = txt (padD 6 r) ∧ (txt (decD (1000000 + r))).size = 7 := by
  have e : decD (1000000 + r) = dgB 1 :: padD 6 r := dec_pad 6 r h
  rw [e]
  have hl := padD_len 6 r
  refine ⟨?_, by rw [txt_size, List.length_cons, hl]⟩
  have := Lib.extract_mk (dgB 1 :: padD 6 r) 1 7
  unfold txt
  rw [this]
  have h2 : List.take (7 - 1) (List.drop 1 (dgB 1 :: padD 6 r)) = padD 6 r := by
    rw [List.drop_one, List.tail_cons]; exact List.take_of_length_le (by omega)
  rw [h2]
theorem frac_text {r : Nat} (h : r < 1000000) : trimZ (txt (padD 6 r)).data.toList = fracD 6 r := trim_pad 6 r h

set_option maxHeartbeats 2000000 in
theorem show_p0 (u : Nat) (w : World) (hu : u ≤ 9223372036854775807) (hr : u % 1000000 = 0) (hT : Tens w) :
    Calls Tryz.prog 121 #[.int .i64 ((u : Int))] w fun e w' => e = .returned (.string (txt (tellL [] u))) ∧ Below w.heap.size w w' := by
  have hF := fun w hT => format_any (u / 1000000) w (by omega) hT
  have hdl := decD_len (n := u / 1000000) (k := 20) (by omega) (by decide)
  have hL := fun w => leftU_any u 1000000 w (by omega) (by omega) (by omega)
  rw [show ((u / 1000000 : Nat) : Int) = (u : Int) / 1000000 by omega] at hF
  rw [show ((u % 1000000 : Nat) : Int) = (u : Int) % 1000000 by omega, show ((1000000 : Nat) : Int) = 1000000 from rfl] at hL
  have HX := hide (tell_no (pre := []) hr)
  have hr' : (u : Int) % 1000000 = 0 := by omega
  rw [hr'] at hL
  clear hr'
  generalize decD (u / 1000000) = d at *
  have HF := hide hF
  have HL := hide hL
  have HTn := hide hT
  clear hF hL hT hr
  have hx0 : 0 ≤ (u : Int) := by omega
  have hx1 : (u : Int) ≤ 9223372036854775807 := by omega
  have h0 := HoldsB.fresh w
  have b0 : Below w.heap.size w (w.alloc (.cells #[.pointer none, .slice none 0 0] 66)) := (Below.refl _ w).alloc (Nat.le_refl _) _
  clear hu
  generalize (u : Int) = x at *
  go_enter Tryz.func121, Tryz.ntmps121
  go_wp2_with fail
  refine (HF.out _ (HTn.out.below b0)).mono ?_
  rintro e w2 ⟨rfl, b2⟩
  have c2 := b0.trans (b2.mono b0.size)
  go_wp2_with fail
  refine (writeString _ _ _ (txt d) _ (h0.below b2) (by simp [txt_size]; omega) c2.size).mono ?_
  rintro e w3 ⟨rfl, h3, b3⟩
  have c3 := c2.trans b3
  go_wp2_with fail
  refine (HL.out _).mono ?_
  rintro e u1 ⟨rfl, rfl⟩
  go_wp2_with fail
  refine (builderText _ _ _ _ h3 c3.size).mono ?_
  rintro e w7 ⟨rfl, b7⟩
  go_wp2_with fail
  go_ret
  refine ⟨ret_str ?_, c3.trans b7⟩
  rw [HX.out]
  simp [txt_data]

set_option maxHeartbeats 2000000 in
theorem show_p1 (u : Nat) (w : World) (hu : u ≤ 9223372036854775807) (hr : u % 1000000 ≠ 0) (hT : Tens w) :
    Calls Tryz.prog 121 #[.int .i64 ((u : Int))] w fun e w' => e = .returned (.string (txt (tellL [] u))) ∧ Below w.heap.size w w' := by
  have hF := fun w hT => format_any (u / 1000000) w (by omega) hT
  have hdl := decD_len (n := u / 1000000) (k := 20) (by omega) (by decide)
  have hL := fun w => leftU_any u 1000000 w (by omega) (by omega) (by omega)
  rw [show ((u / 1000000 : Nat) : Int) = (u : Int) / 1000000 by omega] at hF
  rw [show ((u % 1000000 : Nat) : Int) = (u : Int) % 1000000 by omega, show ((1000000 : Nat) : Int) = 1000000 from rfl] at hL
  have HX := hide (tell_yes (pre := []) hr)
  have hr0 : 0 < (u : Int) % 1000000 := by omega
  have hr1 : (u : Int) % 1000000 < 1000000 := by omega
  have hG := fun w hT => format_any (1000000 + u % 1000000) w (by omega) hT
  have ⟨hp1, hp2⟩ := pad_text (r := u % 1000000) (by omega)
  have hR := fun w => trimRight_any (txt (padD 6 (u % 1000000))) w (by rw [txt_size, padD_len]; omega)
  rw [frac_text (by omega)] at hR
  have hfl := fracD_len 6 (u % 1000000)
  rw [show ((1000000 + u % 1000000 : Nat) : Int) = 1000000 + (u : Int) % 1000000 by omega] at hG
  generalize decD (1000000 + u % 1000000) = g at *
  generalize padD 6 (u % 1000000) = q at *
  generalize fracD 6 (u % 1000000) = f at *
  have HG := hide hG
  have HR := hide hR
  clear hG hR
  generalize decD (u / 1000000) = d at *
  have HF := hide hF
  have HL := hide hL
  have HTn := hide hT
  clear hF hL hT hr
  have hx0 : 0 ≤ (u : Int) := by omega
  have hx1 : (u : Int) ≤ 9223372036854775807 := by omega
  have h0 := HoldsB.fresh w
  have b0 : Below w.heap.size w (w.alloc (.cells #[.pointer none, .slice none 0 0] 66)) := (Below.refl _ w).alloc (Nat.le_refl _) _
  clear hu
  generalize (u : Int) = x at *
  go_enter Tryz.func121, Tryz.ntmps121
  go_wp2_with fail
  refine (HF.out _ (HTn.out.below b0)).mono ?_
  rintro e w2 ⟨rfl, b2⟩
  have c2 := b0.trans (b2.mono b0.size)
  go_wp2_with fail
  refine (writeString _ _ _ (txt d) _ (h0.below b2) (by simp [txt_size]; omega) c2.size).mono ?_
  rintro e w3 ⟨rfl, h3, b3⟩
  have c3 := c2.trans b3
  go_wp2_with fail
  refine (HL.out _).mono ?_
  rintro e u1 ⟨rfl, rfl⟩
  go_wp2_with fail
  refine (writeByte _ _ _ 46 _ h3 (by simp [txt_data]; omega) c3.size).mono ?_
  rintro e w4 ⟨rfl, h4, b4⟩
  have c4 := c3.trans b4
  go_wp2_with fail
  refine (HG.out _ (HTn.out.below c4)).mono ?_
  rintro e w5 ⟨rfl, b5⟩
  have c5 := c4.trans (b5.mono c4.size)
  go_wp2_with fail
  refine (HR.out _).mono ?_
  rintro e u1 ⟨rfl, rfl⟩
  go_wp2_with fail
  refine (writeString _ _ _ (txt f) _ (h4.below b5) (by simp [txt_size, txt_data]; omega) c5.size).mono ?_
  rintro e w6 ⟨rfl, h6, b6⟩
  have c6 := c5.trans b6
  go_wp2_with fail
  refine (builderText _ _ _ _ h6 c6.size).mono ?_
  rintro e w7 ⟨rfl, b7⟩
  go_wp2_with fail
  go_ret
  refine ⟨ret_str ?_, c6.trans b7⟩
  rw [HX.out]
  simp [txt_data]

set_option maxHeartbeats 2000000 in
theorem show_n0 (u : Nat) (w : World) (hu : u ≤ 9223372036854775808) (h1 : 1 ≤ u) (hr : u % 1000000 = 0) (hT : Tens w) :
    Calls Tryz.prog 121 #[.int .i64 (-(u : Int))] w fun e w' => e = .returned (.string (txt (tellL [45] u))) ∧ Below w.heap.size w w' := by
  have hF := fun w hT => format_any (u / 1000000) w (by omega) hT
  have hdl := decD_len (n := u / 1000000) (k := 20) (by omega) (by decide)
  have hL := fun w => leftU_any u 1000000 w (by omega) (by omega) (by omega)
  rw [show ((u / 1000000 : Nat) : Int) = (u : Int) / 1000000 by omega] at hF
  rw [show ((u % 1000000 : Nat) : Int) = (u : Int) % 1000000 by omega, show ((1000000 : Nat) : Int) = 1000000 from rfl] at hL
  have HX := hide (tell_no (pre := [45]) hr)
  have hr' : (u : Int) % 1000000 = 0 := by omega
  rw [hr'] at hL
  clear hr'
  generalize decD (u / 1000000) = d at *
  have HF := hide hF
  have HL := hide hL
  have HTn := hide hT
  clear hF hL hT hr
  have hx0 : 1 ≤ (u : Int) := by omega
  have hx1 : (u : Int) ≤ 9223372036854775808 := by omega
  have h0 := HoldsB.fresh w
  have b0 : Below w.heap.size w (w.alloc (.cells #[.pointer none, .slice none 0 0] 66)) := (Below.refl _ w).alloc (Nat.le_refl _) _
  have hneg : IntKind.u64.wrap (-IntKind.u64.wrap (-(u : Int))) = (u : Int) := by rw [IntKind.wrap_u64, IntKind.wrap_u64]; omega
  clear hu h1
  generalize (u : Int) = x at *
  go_enter Tryz.func121, Tryz.ntmps121
  go_wp2_with fail
  refine (writeByte _ _ _ 45 _ h0 (by simp) b0.size).mono ?_
  rintro e w1 ⟨rfl, h1, b1⟩
  have c1 := b0.trans b1
  go_wp2_with fail
  refine (HF.out _ (HTn.out.below c1)).mono ?_
  rintro e w2 ⟨rfl, b2⟩
  have c2 := c1.trans (b2.mono c1.size)
  go_wp2_with fail
  refine (writeString _ _ _ (txt d) _ (h1.below b2) (by simp [txt_size]; omega) c2.size).mono ?_
  rintro e w3 ⟨rfl, h3, b3⟩
  have c3 := c2.trans b3
  go_wp2_with fail
  refine (HL.out _).mono ?_
  rintro e u1 ⟨rfl, rfl⟩
  go_wp2_with fail
  refine (builderText _ _ _ _ h3 c3.size).mono ?_
  rintro e w7 ⟨rfl, b7⟩
  go_wp2_with fail
  go_ret
  refine ⟨ret_str ?_, c3.trans b7⟩
  rw [HX.out]
  simp [txt_data]

set_option maxHeartbeats 2000000 in
theorem show_n1 (u : Nat) (w : World) (hu : u ≤ 9223372036854775808) (h1 : 1 ≤ u) (hr : u % 1000000 ≠ 0) (hT : Tens w) :
    Calls Tryz.prog 121 #[.int .i64 (-(u : Int))] w fun e w' => e = .returned (.string (txt (tellL [45] u))) ∧ Below w.heap.size w w' := by
  have hF := fun w hT => format_any (u / 1000000) w (by omega) hT
  have hdl := decD_len (n := u / 1000000) (k := 20) (by omega) (by decide)
  have hL := fun w => leftU_any u 1000000 w (by omega) (by omega) (by omega)
  rw [show ((u / 1000000 : Nat) : Int) = (u : Int) / 1000000 by omega] at hF
  rw [show ((u % 1000000 : Nat) : Int) = (u : Int) % 1000000 by omega, show ((1000000 : Nat) : Int) = 1000000 from rfl] at hL
  have HX := hide (tell_yes (pre := [45]) hr)
  have hr0 : 0 < (u : Int) % 1000000 := by omega
  have hr1 : (u : Int) % 1000000 < 1000000 := by omega
  have hG := fun w hT => format_any (1000000 + u % 1000000) w (by omega) hT
  have ⟨hp1, hp2⟩ := pad_text (r := u % 1000000) (by omega)
  have hR := fun w => trimRight_any (txt (padD 6 (u % 1000000))) w (by rw [txt_size, padD_len]; omega)
  rw [frac_text (by omega)] at hR
  have hfl := fracD_len 6 (u % 1000000)
  rw [show ((1000000 + u % 1000000 : Nat) : Int) = 1000000 + (u : Int) % 1000000 by omega] at hG
  generalize decD (1000000 + u % 1000000) = g at *
  generalize padD 6 (u % 1000000) = q at *
  generalize fracD 6 (u % 1000000) = f at *
  have HG := hide hG
  have HR := hide hR
  clear hG hR
  generalize decD (u / 1000000) = d at *
  have HF := hide hF
  have HL := hide hL
  have HTn := hide hT
  clear hF hL hT hr
  have hx0 : 1 ≤ (u : Int) := by omega
  have hx1 : (u : Int) ≤ 9223372036854775808 := by omega
  have h0 := HoldsB.fresh w
  have b0 : Below w.heap.size w (w.alloc (.cells #[.pointer none, .slice none 0 0] 66)) := (Below.refl _ w).alloc (Nat.le_refl _) _
  have hneg : IntKind.u64.wrap (-IntKind.u64.wrap (-(u : Int))) = (u : Int) := by rw [IntKind.wrap_u64, IntKind.wrap_u64]; omega
  clear hu h1
  generalize (u : Int) = x at *
  go_enter Tryz.func121, Tryz.ntmps121
  go_wp2_with fail
  refine (writeByte _ _ _ 45 _ h0 (by simp) b0.size).mono ?_
  rintro e w1 ⟨rfl, h1, b1⟩
  have c1 := b0.trans b1
  go_wp2_with fail
  refine (HF.out _ (HTn.out.below c1)).mono ?_
  rintro e w2 ⟨rfl, b2⟩
  have c2 := c1.trans (b2.mono c1.size)
  go_wp2_with fail
  refine (writeString _ _ _ (txt d) _ (h1.below b2) (by simp [txt_size]; omega) c2.size).mono ?_
  rintro e w3 ⟨rfl, h3, b3⟩
  have c3 := c2.trans b3
  go_wp2_with fail
  refine (HL.out _).mono ?_
  rintro e u1 ⟨rfl, rfl⟩
  go_wp2_with fail
  refine (writeByte _ _ _ 46 _ h3 (by simp [txt_data]; omega) c3.size).mono ?_
  rintro e w4 ⟨rfl, h4, b4⟩
  have c4 := c3.trans b4
  go_wp2_with fail
  refine (HG.out _ (HTn.out.below c4)).mono ?_
  rintro e w5 ⟨rfl, b5⟩
  have c5 := c4.trans (b5.mono c4.size)
  go_wp2_with fail
  refine (HR.out _).mono ?_
  rintro e u1 ⟨rfl, rfl⟩
  go_wp2_with fail
  refine (writeString _ _ _ (txt f) _ (h4.below b5) (by simp [txt_size, txt_data]; omega) c5.size).mono ?_
  rintro e w6 ⟨rfl, h6, b6⟩
  have c6 := c5.trans b6
  go_wp2_with fail
  refine (builderText _ _ _ _ h6 c6.size).mono ?_
  rintro e w7 ⟨rfl, b7⟩
  go_wp2_with fail
  go_ret
  refine ⟨ret_str ?_, c6.trans b7⟩
  rw [HX.out]
  simp [txt_data]

theorem show_any (n : Int) (w : World) (h1 : -9223372036854775808 ≤ n) (h2 : n ≤ 9223372036854775807) (hT : Tens w) :
    Calls Tryz.prog 121 #[.int .i64 n] w fun e w' => e = .returned (.string (txt (showL n))) ∧ Below w.heap.size w w' := by
  rw [tell_is]
  by_cases hn : n < 0
  · obtain ⟨u, rfl⟩ : ∃ u : Nat, n = -(u : Int) := ⟨n.natAbs, by omega⟩
    have e : (-(u : Int)).natAbs = u := by omega
    rw [if_pos hn, e]
    by_cases hr : u % 1000000 = 0
    · exact show_n0 u w (by omega) (by omega) hr hT
    · exact show_n1 u w (by omega) (by omega) hr hT
  · obtain ⟨u, rfl⟩ : ∃ u : Nat, n = (u : Int) := ⟨n.toNat, by omega⟩
    have e : (u : Int).natAbs = u := by omega
    rw [if_neg hn, e]
    by_cases hr : u % 1000000 = 0
    · exact show_p0 u w (by omega) hr hT
    · exact show_p1 u w (by omega) hr hT

end Go.Proofs.YtpkpkpiphgjbaaaGreatDoor

namespace Go.Proofs.YtpkpkpiphgjbaaaGreatDoor
open Go.RowKit
set_option maxRecDepth 100000

/-- A reader in block R, of the call's own: R is behind all that lay in the world w0; it has l to read, b tells whether something was wrong. -/
structure Rd (w0 w : World) (R : Nat) (l : List UInt8) (b : Bool) : Prop where
  own : w0.heap.size ≤ R
  lies : w.heap[R]? = some (.cells #[.string (txt l), .bool b] 129 (0, 0))
  below : Below w0.heap.size w0 w
theorem Rd.cell0 {w0 w : World} {R : Nat} {l : List UInt8} {b : Bool} (h : Rd w0 w R l b) : w.cell? ⟨R, 0, none⟩ = some (.string (txt l)) := by
  have := h.lies
  simp [World.cell?, this]
theorem Rd.cell1 {w0 w : World} {R : Nat} {l : List UInt8} {b : Bool} (h : Rd w0 w R l b) : w.cell? ⟨R, 1, none⟩ = some (.bool b) := by
  have := h.lies
  simp [World.cell?, this]
theorem Rd.frozen {w0 w : World} {R : Nat} {l : List UInt8} {b : Bool} (h : Rd w0 w R l b) (k : Nat) : w.frozen? ⟨R, k, none⟩ = false := by
  have := h.lies
  simp [World.frozen?, this]
theorem Rd.set0 {w0 w : World} {R : Nat} {l : List UInt8} {b : Bool} (h : Rd w0 w R l b) (k : List UInt8) : Rd w0 (w.setCell ⟨R, 0, none⟩ (.string (txt k))) R k b :=
  ⟨h.own, by simp [World.setCell, Array.getElem?_modify, h.lies], h.below.setCell h.own _⟩
theorem Rd.set1 {w0 w : World} {R : Nat} {l : List UInt8} {b : Bool} (h : Rd w0 w R l b) (c : Bool) : Rd w0 (w.setCell ⟨R, 1, none⟩ (.bool c)) R l c :=
  ⟨h.own, by simp [World.setCell, Array.getElem?_modify, h.lies], h.below.setCell h.own _⟩
theorem Rd.lt {w0 w : World} {R : Nat} {l : List UInt8} {b : Bool} (h : Rd w0 w R l b) : R < w.heap.size := by
  have := h.lies
  rcases Nat.lt_or_ge R w.heap.size with h' | h'
  · exact h'
  · simp [Array.getElem?_eq_none h'] at this
/-- Another call, which changes nothing that was there. -/
theorem Rd.pass {w0 w w' : World} {R : Nat} {l : List UInt8} {b : Bool} (h : Rd w0 w R l b) (hb : Below w.heap.size w w') : Rd w0 w' R l b :=
  ⟨h.own, by rw [hb.block R h.lt]; exact h.lies, h.below.trans (hb.mono h.below.size)⟩

set_option maxHeartbeats 1000000 in
theorem must_any (w0 : World) (R : Nat) (l : List UInt8) (b c : Bool) (w : World) (h : Rd w0 w R l b) :
    Calls Tryz.prog 156 #[.pointer (some ⟨R, 0, none⟩), .bool c] w fun e w' => e = .returned (.tuple #[]) ∧ Rd w0 w' R l (b || !c) := by
  have f1 := h.frozen 1; have c1 := h.cell1
  have h0 := hide h
  clear h
  go_enter Tryz.func156, Tryz.ntmps156
  cases c with
  | true =>
    go_wp2_with fail
    go_end0
    exact ⟨rfl, by simpa using h0.out⟩
  | false =>
    go_wp2_with fail
    go_end0
    exact ⟨rfl, by simpa using h0.out.set1 true⟩

end Go.Proofs.YtpkpkpiphgjbaaaGreatDoor

namespace Go.Proofs.YtpkpkpiphgjbaaaGreatDoor
open Go.RowKit

/-- What is read, and what is left. -/
abbrev Got := Option (Int × List UInt8)
/-- What a step of reading tells: whether something was wrong before it, and whether something is behind it. -/
def Tell (b : Bool) (p : Got) (v : Int) (l : List UInt8) (b' : Bool) : Prop := (b = false ∧ b' = false ∧ p = some (v, l)) ∨ (b' = true ∧ (b = true ∨ p = none))
theorem Tell.bind {b b1 b2 : Bool} {p : Got} {v v2 : Int} {l l2 : List UInt8} {f : Int → List UInt8 → Got} (h1 : Tell b p v l b1) (h2 : Tell b1 (f v l) v2 l2 b2) : Tell b (p.bind fun x => f x.1 x.2) v2 l2 b2 := by
  rcases h1 with ⟨e1, e2, e3⟩ | ⟨e1, e2⟩
  · subst e3
    rcases h2 with ⟨_, g2, g3⟩ | ⟨g1, g2⟩
    · exact .inl ⟨e1, g2, g3⟩
    · rcases g2 with g2 | g2
      · rw [g2] at e2; cases e2
      · exact .inr ⟨g1, .inr g2⟩
  · rcases h2 with ⟨g1, _, _⟩ | ⟨g1, _⟩
    · rw [e1] at g1; cases g1
    · refine .inr ⟨g1, ?_⟩
      rcases e2 with e2 | e2
      · exact .inl e2
      · subst e2; exact .inr rfl
theorem Tell.pure {b : Bool} {v : Int} {l : List UInt8} : Tell b (some (v, l)) v l b := by
  cases b
  · exact .inl ⟨rfl, rfl, rfl⟩
  · exact .inr ⟨rfl, .inl rfl⟩
theorem Tell.as {b b' : Bool} {p q : Got} {v v' : Int} {l l' : List UInt8} (h : Tell b p v l b') (hp : p = q) (hv : v = v') (hl : l = l') : Tell b q v' l' b' := by subst hp hv hl; exact h
/-- 'must' of a condition, and the step behind it. -/
theorem Tell.must {b : Bool} {c : Bool} {v : Int} {l : List UInt8} : Tell b (if c = true then some (v, l) else none) v l (b || !c) := by
  cases b <;> cases c
  · exact .inr ⟨rfl, .inr rfl⟩
  · exact .inl ⟨rfl, rfl, rfl⟩
  · exact .inr ⟨rfl, .inl rfl⟩
  · exact .inr ⟨rfl, .inl rfl⟩

/-- The digits that come next, k at most. -/
def digsOf (k : Nat) (l : List UInt8) : List UInt8 := (l.take k).takeWhile isDg
theorem digs_dg (k : Nat) (l : List UInt8) : ∀ c ∈ digsOf k l, isDg c = true := fun c hc => by
  have := List.all_takeWhile (p := isDg) (l := l.take k)
  rw [List.all_eq_true] at this
  exact this c hc
theorem digs_len (k : Nat) (l : List UInt8) : (digsOf k l).length ≤ k ∧ (digsOf k l).length ≤ l.length := by
  have h1 := (List.takeWhile_sublist isDg (l := l.take k)).length_le
  have h2 := List.length_take_le k l
  have h3 := List.length_take_le' k l
  unfold digsOf
  omega
theorem digs_pre (k : Nat) (l : List UInt8) : l.take (digsOf k l).length = digsOf k l := by
  have h1 : (l.take k).take (digsOf k l).length = digsOf k l := by
    have := List.takeWhile_prefix isDg (l := l.take k)
    exact (List.prefix_iff_eq_take.1 this).symm
  rw [List.take_take, Nat.min_eq_left (digs_len k l).1] at h1
  exact h1
def maxI : Nat := 9223372036854775807
/-- The number that digits tell, if an int holds it. -/
def valV (ds : List UInt8) : Option Int := if ds ≠ [] ∧ natOf ds ≤ maxI then some (natOf ds : Int) else none
def yrP (l : List UInt8) : Got := if 4 ≤ (l.takeWhile isDg).length ∧ natOf (l.takeWhile isDg) ≤ maxI then some ((natOf (l.takeWhile isDg) : Int), l.dropWhile isDg) else none
def twoP (l : List UInt8) : Got := if (digsOf 2 l).length = 2 then some ((natOf (digsOf 2 l) : Int), l.drop (digsOf 2 l).length) else none
def signP (p : UInt8 → Bool) : List UInt8 → Got
  | [] => none
  | c :: r => if p c = true then some (0, r) else none
def belowP (k : Int) (l : List UInt8) : Got := (twoP l).bind fun x => if decide (x.1 < k) = true then some (x.1, x.2) else none
def isHy (c : UInt8) : Bool := c == 45
def isCol (c : UInt8) : Bool := c == 58
def isPt (c : UInt8) : Bool := c == 46
def isW (c : UInt8) : Bool := c == 87
def dateP (l : List UInt8) : Got := (yrP l).bind fun y => (signP isHy y.2).bind fun s => (twoP s.2).bind fun m => (signP isHy m.2).bind fun t => (twoP t.2).bind fun d => (numD y.1 m.1 d.1).bind fun n => some (n * 86400000, d.2)
def monthP (l : List UInt8) : Got := (yrP l).bind fun y => (signP isHy y.2).bind fun s => (twoP s.2).bind fun m => if decide (0 < LenV y.1 m.1) = true then some ((y.1 - 1970) * 12 + (m.1 - 1), m.2) else none
def weekP (l : List UInt8) : Got := (yrP l).bind fun y => (signP isHy y.2).bind fun s => (signP isW s.2).bind fun t => (twoP t.2).bind fun k => if 1 ≤ k.1 ∧ k.1 ≤ WeeksV y.1 then some ((firstV y.1 + 7 * (k.1 - 1)) * 86400000, k.2) else none
def thP (l : List UInt8) : Got := if digsOf 3 l ≠ [] then some ((fracOf 3 (digsOf 3 l) : Int), l.drop (digsOf 3 l).length) else none
def fracP (n : Int) (l : List UInt8) : Got :=
  match signP isPt l with
  | none => some (n, l)
  | some x => (thP x.2).bind fun f => some (n + f.1, f.2)
def secP (n : Int) (l : List UInt8) : Got :=
  match signP isCol l with
  | none => some (n, l)
  | some x => (belowP 60 x.2).bind fun s => fracP (n + s.1 * 1000) s.2
def timeP (l : List UInt8) : Got := (belowP 24 l).bind fun h => (signP isCol h.2).bind fun s => (belowP 60 s.2).bind fun m => secP (h.1 * 3600000 + m.1 * 60000) m.2
def localP (l : List UInt8) : Got := (dateP l).bind fun d => (signP isSep d.2).bind fun s => (timeP s.2).bind fun t => some (d.1 + t.1, t.2)
/-- How Parse ends: nothing may be left. -/
def fin : Got → Option Int
  | some (v, []) => some v
  | _ => none
theorem fin_none : fin none = none := rfl
theorem fin_some (v : Int) : fin (some (v, [])) = some v := rfl
theorem fin_left (v : Int) (c : UInt8) (l : List UInt8) : fin (some (v, c :: l)) = none := rfl

theorem two_nil : twoP [] = none := rfl
theorem two_one (a : UInt8) : twoP [a] = none := by
  unfold twoP
  rw [if_neg]
  have := digs_len 2 [a]
  simp at this; omega
theorem two_is (a b : UInt8) (r : List UInt8) : twoP (a :: b :: r) = if 0 ≤ twoV a b then some (twoV a b, r) else none := by
  cases ha : isDg a with
  | false =>
    rw [two_no (by simp [ha]), if_neg (by omega)]
    unfold twoP digsOf
    simp [ha]
  | true =>
    cases hb : isDg b with
    | false =>
      rw [two_no (by simp [hb]), if_neg (by omega)]
      unfold twoP digsOf
      simp [ha, hb]
    | true =>
      have hd := two_yes ha hb
      rw [hd, if_pos (by omega)]
      have e : digsOf 2 (a :: b :: r) = [a, b] := by unfold digsOf; simp [ha, hb]
      have e2 : natOf [a, b] = 10 * dg a + dg b := by
        show 10 * (10 * 0 + dg a) + dg b = _
        omega
      unfold twoP
      rw [e, e2]
      exact if_pos rfl
theorem below_is (k : Int) (a b : UInt8) (r : List UInt8) : belowP k (a :: b :: r) = if 0 ≤ twoV a b ∧ twoV a b < k then some (twoV a b, r) else none := by
  unfold belowP
  rw [two_is]
  by_cases h : 0 ≤ twoV a b
  · rw [if_pos h]
    by_cases g : twoV a b < k
    · simp [h, g]
    · simp [g]
  · rw [if_neg h, if_neg (by omega)]; rfl
theorem below_nil (k : Int) : belowP k [] = none := rfl
theorem below_one (k : Int) (a : UInt8) : belowP k [a] = none := by unfold belowP; rw [two_one]; rfl
theorem sign_nil (p : UInt8 → Bool) : signP p [] = none := rfl
theorem sign_cons (p : UInt8 → Bool) (c : UInt8) (r : List UInt8) : signP p (c :: r) = if p c = true then some (0, r) else none := rfl
theorem isHy_iff (c : UInt8) : isHy c = true ↔ c = 45 := by unfold isHy; simp
theorem isCol_iff (c : UInt8) : isCol c = true ↔ c = 58 := by unfold isCol; simp
theorem isPt_iff (c : UInt8) : isPt c = true ↔ c = 46 := by unfold isPt; simp
theorem isW_iff (c : UInt8) : isW c = true ↔ c = 87 := by unfold isW; simp
theorem year_len {y m : Int} (h : ¬ (1 ≤ y ∧ y ≤ 275760)) : LenV y m = 0 := len_out (fun x => h ⟨x.1, x.2.1⟩)
theorem numD_out {y m d : Int} (h : LenV y m = 0) : numD y m d = none := by unfold numD; rw [if_neg (by omega)]
theorem year_yes {l : List UInt8} {y : Int} (h : yrV (l.takeWhile isDg) = some y) : yrP l = some (y, l.dropWhile isDg) ∧ 1 ≤ y ∧ y ≤ 275760 := by
  have hb := year_of h
  unfold yrV at h
  split at h
  · rename_i g
    cases h
    refine ⟨?_, hb⟩
    unfold yrP
    rw [if_pos ⟨g.1, by unfold maxI; omega⟩]
  · cases h
theorem year_none {l : List UInt8} (h : yrV (l.takeWhile isDg) = none) : yrP l = none ∨ ∃ y, yrP l = some (y, l.dropWhile isDg) ∧ ¬ (1 ≤ y ∧ y ≤ 275760) := by
  unfold yrP
  split
  · rename_i g
    refine .inr ⟨_, rfl, ?_⟩
    intro x
    rw [yr_yes ⟨g.1, by omega, by omega⟩] at h
    cases h
  · exact .inl rfl
def dateR (y : Int) (l : List UInt8) : Got := (signP isHy l).bind fun s => (twoP s.2).bind fun m => (signP isHy m.2).bind fun t => (twoP t.2).bind fun d => (numD y m.1 d.1).bind fun n => some (n * 86400000, d.2)
theorem dateP_eq (l : List UInt8) : dateP l = (yrP l).bind fun y => dateR y.1 y.2 := rfl
theorem dateR_shape {y : Int} {l k : List UInt8} {v : Int} (h : dateR y l = some (v, k)) : ∃ a b c d n, l = 45 :: a :: b :: 45 :: c :: d :: k ∧ 0 ≤ twoV a b ∧ 0 ≤ twoV c d ∧ numD y (twoV a b) (twoV c d) = some n ∧ v = n * 86400000 := by
  unfold dateR at h
  rcases l with _ | ⟨p, _ | ⟨a, _ | ⟨b, l⟩⟩⟩
  · cases h
  · rw [sign_cons] at h; split at h <;> cases h
  · rw [sign_cons] at h
    split at h
    · rw [Option.bind_some, two_one] at h; cases h
    · cases h
  · rw [sign_cons] at h
    split at h
    · rename_i hp
      rw [Option.bind_some, two_is] at h
      split at h
      · rename_i hab
        rw [Option.bind_some] at h
        rcases l with _ | ⟨q, _ | ⟨c, _ | ⟨d, l⟩⟩⟩
        · cases h
        · rw [sign_cons] at h; split at h <;> cases h
        · rw [sign_cons] at h
          split at h
          · rw [Option.bind_some, two_one] at h; cases h
          · cases h
        · rw [sign_cons] at h
          split at h
          · rename_i hq
            rw [Option.bind_some, two_is] at h
            split at h
            · rename_i hcd
              rw [Option.bind_some, Option.bind_eq_some_iff] at h
              obtain ⟨n, hn, e⟩ := h
              cases e
              obtain rfl := (isHy_iff p).1 hp
              obtain rfl := (isHy_iff q).1 hq
              exact ⟨a, b, c, d, n, rfl, hab, hcd, hn, rfl⟩
            · cases h
          · cases h
      · cases h
    · cases h
theorem dateR_is {y : Int} {a b c d : UInt8} {n : Int} (k : List UInt8) (h1 : 0 ≤ twoV a b) (h2 : 0 ≤ twoV c d) (h : numD y (twoV a b) (twoV c d) = some n) : dateR y (45 :: a :: b :: 45 :: c :: d :: k) = some (n * 86400000, k) := by
  unfold dateR
  rw [sign_cons, if_pos (by decide), Option.bind_some, two_is, if_pos h1, Option.bind_some, sign_cons, if_pos (by decide), Option.bind_some, two_is, if_pos h2, Option.bind_some, h]; rfl
theorem dateR_none {y : Int} (l : List UInt8) (h : ¬ (1 ≤ y ∧ y ≤ 275760)) : dateR y l = none := by
  cases e : dateR y l with
  | none => rfl
  | some x =>
    obtain ⟨a, b, c, d, n, _, _, _, hn, _⟩ := dateR_shape (v := x.1) (k := x.2) e
    rw [numD_out (year_len h)] at hn; cases hn
theorem dateR_fin (y : Int) (l : List UInt8) : fin (dateR y l) = (dateTail y l).map (· * 86400000) := by
  cases e : dateR y l with
  | some x =>
    obtain ⟨v, k⟩ := x
    obtain ⟨a, b, c, d, n, rfl, h1, h2, hn, rfl⟩ := dateR_shape e
    cases k with
    | nil => rw [dateTail_eq, if_pos ⟨rfl, rfl⟩, hn]; rfl
    | cons => rfl
  | none =>
    cases g : dateTail y l with
    | none => rfl
    | some n =>
      exfalso
      unfold dateTail at g
      split at g
      · rename_i p a b q c d
        split at g
        · rename_i hpq
          obtain ⟨rfl, rfl⟩ := hpq
          have h1 : 0 ≤ twoV a b := by
            rcases Int.lt_or_le (twoV a b) 0 with x | x
            · rw [numD_out (len_out (by omega))] at g; cases g
            · exact x
          have h2 : 0 ≤ twoV c d := by
            rcases Int.lt_or_le (twoV c d) 0 with x | x
            · unfold numD at g; rw [if_neg (by omega)] at g; cases g
            · exact x
          rw [dateR_is [] h1 h2 g] at e; cases e
        · cases g
      · cases g
theorem date_fin (l : List UInt8) : fin (dateP l) = (dateT l).map (· * 86400000) := by
  rw [dateP_eq]
  unfold dateT
  cases h : yrV (l.takeWhile isDg) with
  | none =>
    rcases year_none h with e | ⟨y, e, hy⟩
    · rw [e]; rfl
    · rw [e, Option.bind_some, dateR_none _ hy]; rfl
  | some y =>
    rw [(year_yes h).1, Option.bind_some, Option.bind_some]
    exact dateR_fin y _
theorem month_fin (l : List UInt8) : fin (monthP l) = monthT l := by
  have key : ∀ (y : Int) (t : List UInt8), (1 ≤ y ∧ y ≤ 275760) → fin ((signP isHy t).bind fun s => (twoP s.2).bind fun m => if decide (0 < LenV y m.1) = true then some ((y - 1970) * 12 + (m.1 - 1), m.2) else none) = monthTail y t := by
    intro y t hy
    rcases t with _ | ⟨p, _ | ⟨a, _ | ⟨b, r⟩⟩⟩
    · rfl
    · rw [sign_cons]; split <;> rfl
    · rw [sign_cons]
      split
      · rw [Option.bind_some, two_one]; rfl
      · rfl
    · rw [sign_cons]
      have hb := two_bounds a b
      by_cases hp : p = 45
      · subst hp
        rw [if_pos (by decide), Option.bind_some, two_is]
        by_cases h0 : 0 ≤ twoV a b
        · rw [if_pos h0, Option.bind_some]
          by_cases hm : 1 ≤ twoV a b ∧ twoV a b ≤ 12
          · have := len_bounds y (twoV a b)
            have e := len_in (y := y) (m := twoV a b) ⟨hy.1, hy.2, hm.1, hm.2⟩
            rw [if_pos (by rw [decide_eq_true_iff, e]; omega)]
            cases r with
            | nil =>
              rw [fin_some, monthTail_eq, if_pos ⟨rfl, hm.1, hm.2⟩]
              congr 1; omega
            | cons => rfl
          · have e := len_out (y := y) (m := twoV a b) (fun x => hm ⟨x.2.2.1, x.2.2.2⟩)
            rw [if_neg (by rw [decide_eq_true_iff, e]; omega)]
            cases r with
            | nil => rw [monthTail_eq, if_neg (fun x => hm ⟨x.2.1, x.2.2⟩)]; rfl
            | cons => rfl
        · rw [if_neg h0]
          cases r with
          | nil => rw [monthTail_eq, if_neg (by omega)]; rfl
          | cons => rfl
      · rw [if_neg (by rw [isHy_iff]; exact hp)]
        cases r with
        | nil => rw [monthTail_eq, if_neg (fun x => hp x.1)]; rfl
        | cons => rfl
  unfold monthT monthP
  cases h : yrV (l.takeWhile isDg) with
  | none =>
    rcases year_none h with e | ⟨y, e, hy⟩
    · rw [e]; rfl
    · rw [e, Option.bind_some]
      show fin _ = none
      generalize l.dropWhile isDg = t
      dsimp only
      cases signP isHy t with
      | none => rfl
      | some s =>
        rw [Option.bind_some]
        cases twoP s.2 with
        | none => rfl
        | some m =>
          rw [Option.bind_some, year_len hy]; rfl
  | some y =>
    have := year_yes h
    rw [this.1, Option.bind_some, Option.bind_some]
    exact key y _ this.2
theorem week_fin (l : List UInt8) : fin (weekP l) = (weekT l).map (· * 86400000) := by
  have key : ∀ (y : Int) (t : List UInt8), fin ((signP isHy t).bind fun s => (signP isW s.2).bind fun t => (twoP t.2).bind fun k => if 1 ≤ k.1 ∧ k.1 ≤ WeeksV y then some ((firstV y + 7 * (k.1 - 1)) * 86400000, k.2) else none) = (weekTail y t).map (· * 86400000) := by
    intro y t
    rcases t with _ | ⟨p, _ | ⟨q, _ | ⟨a, _ | ⟨b, r⟩⟩⟩⟩
    · rfl
    · rw [sign_cons]; split <;> rfl
    · rw [sign_cons]
      split
      · rw [Option.bind_some, sign_cons]; split <;> rfl
      · rfl
    · rw [sign_cons]
      split
      · rw [Option.bind_some, sign_cons]
        split
        · rw [Option.bind_some, two_one]; rfl
        · rfl
      · rfl
    · rw [sign_cons]
      have hb := two_bounds a b
      have hr : ∀ c r', weekTail y (p :: q :: a :: b :: c :: r') = none := fun _ _ => rfl
      by_cases hp : p = 45
      · subst hp
        rw [if_pos (by decide), Option.bind_some, sign_cons]
        by_cases hq : q = 87
        · subst hq
          rw [if_pos (by decide), Option.bind_some, two_is]
          by_cases h0 : 0 ≤ twoV a b
          · rw [if_pos h0, Option.bind_some]
            by_cases hm : 1 ≤ twoV a b ∧ twoV a b ≤ WeeksV y
            · rw [if_pos hm]
              cases r with
              | nil => rw [fin_some, weekTail_eq, if_pos ⟨rfl, rfl, hm.1, hm.2⟩]; rfl
              | cons => rfl
            · rw [if_neg hm]
              cases r with
              | nil => rw [weekTail_eq, if_neg (fun x => hm ⟨x.2.2.1, x.2.2.2⟩)]; rfl
              | cons => rfl
          · rw [if_neg h0]
            cases r with
            | nil => rw [weekTail_eq, if_neg (by omega)]; rfl
            | cons => rfl
        · rw [if_neg (by rw [isW_iff]; exact hq)]
          cases r with
          | nil => rw [weekTail_eq, if_neg (fun x => hq x.2.1)]; rfl
          | cons => rfl
      · rw [if_neg (by rw [isHy_iff]; exact hp)]
        cases r with
        | nil => rw [weekTail_eq, if_neg (fun x => hp x.1)]; rfl
        | cons => rfl
  unfold weekT weekP
  cases h : yrV (l.takeWhile isDg) with
  | none =>
    rcases year_none h with e | ⟨y, e, hy⟩
    · rw [e]; rfl
    · rw [e, Option.bind_some]
      show fin _ = none
      generalize l.dropWhile isDg = t
      dsimp only
      cases signP isHy t with
      | none => rfl
      | some s =>
        rw [Option.bind_some]
        cases signP isW s.2 with
        | none => rfl
        | some s =>
          rw [Option.bind_some]
          cases twoP s.2 with
          | none => rfl
          | some m =>
            rw [Option.bind_some, weeks_out hy, if_neg (by omega)]; rfl
  | some y =>
    have := year_yes h
    rw [this.1, Option.bind_some, Option.bind_some]
    exact key y _
theorem frac_fin (n : Int) (l : List UInt8) : fin (fracP n l) = fracT n l := by
  cases l with
  | nil => rfl
  | cons c f =>
    unfold fracP
    rw [sign_cons, fracT_eq]
    by_cases hc : c = 46
    · subst hc
      rw [if_pos (by decide)]
      show fin ((thP f).bind _) = _
      unfold thP
      have hl := digs_len 3 f
      have hd := digs_dg 3 f
      have hp := digs_pre 3 f
      by_cases h : f.length ≤ 3 ∧ f.all isDg = true
      · have e : digsOf 3 f = f := by
          unfold digsOf
          rw [List.take_of_length_le h.1]
          have := (takeWhile_all (k := []) (List.all_eq_true.1 h.2) (fun _ _ e => by cases e)).1
          rw [List.append_nil] at this
          exact this
        rw [e]
        cases f with
        | nil => rfl
        | cons d f =>
          rw [if_pos (by simp), if_pos ⟨rfl, by simp, h.1, h.2⟩, Option.bind_some, List.drop_length]; rfl
      · have hno : ¬ ((46 : UInt8) = 46 ∧ 1 ≤ f.length ∧ f.length ≤ 3 ∧ f.all isDg = true) := fun x => h ⟨x.2.2.1, x.2.2.2⟩
        rw [if_neg hno]
        by_cases g : digsOf 3 f = []
        · rw [if_neg (fun x => x g)]; rfl
        · rw [if_pos g, Option.bind_some]
          cases e : f.drop (digsOf 3 f).length with
          | cons => rfl
          | nil =>
            exfalso
            have e1 : digsOf 3 f = f := by
              have := List.take_append_drop (digsOf 3 f).length f
              rw [e, hp, List.append_nil] at this
              exact this
            rw [e1] at hl hd
            exact h ⟨hl.1, List.all_eq_true.2 hd⟩
    · rw [if_neg (by rw [isPt_iff]; exact hc), if_neg (fun x => hc x.1)]; rfl
theorem sec_fin (n : Int) (l : List UInt8) : fin (secP n l) = secT n l := by
  unfold secP
  rcases l with _ | ⟨q, _ | ⟨e, _ | ⟨f, r⟩⟩⟩
  · rfl
  · rw [sign_cons]
    cases isCol q <;> rfl
  · rw [sign_cons]
    by_cases hq : q = 58
    · subst hq
      rw [if_pos (by decide)]
      show fin ((belowP 60 [e]).bind _) = none
      rw [below_one]; rfl
    · rw [if_neg (by rw [isCol_iff]; exact hq)]; rfl
  · rw [sign_cons, secT_eq]
    by_cases hq : q = 58
    · subst hq
      rw [if_pos (by decide)]
      show fin ((belowP 60 (e :: f :: r)).bind _) = _
      rw [below_is]
      by_cases h : 0 ≤ twoV e f ∧ twoV e f < 60
      · rw [if_pos h, if_pos ⟨rfl, h.1, by omega⟩, Option.bind_some]
        exact frac_fin _ _
      · rw [if_neg h, if_neg (by omega)]; rfl
    · rw [if_neg (by rw [isCol_iff]; exact hq), if_neg (fun x => hq x.1)]; rfl
theorem time_fin (l : List UInt8) : fin (timeP l) = clockT l := by
  unfold timeP
  rcases l with _ | ⟨a, _ | ⟨b, _ | ⟨p, _ | ⟨c, _ | ⟨d, r⟩⟩⟩⟩⟩
  · rfl
  · rw [below_one]; rfl
  · rw [below_is]; split <;> rfl
  · rw [below_is]
    split
    · rw [Option.bind_some, sign_cons]; split <;> rfl
    · rfl
  · rw [below_is]
    split
    · rw [Option.bind_some, sign_cons]
      split
      · rw [Option.bind_some, below_one]; rfl
      · rfl
    · rfl
  · rw [below_is, clockT_eq]
    by_cases h : 0 ≤ twoV a b ∧ twoV a b < 24
    · rw [if_pos h, Option.bind_some, sign_cons]
      by_cases hp : p = 58
      · subst hp
        rw [if_pos (by decide), Option.bind_some, below_is]
        by_cases g : 0 ≤ twoV c d ∧ twoV c d < 60
        · rw [if_pos g, if_pos ⟨rfl, h.1, by omega, g.1, by omega⟩, Option.bind_some]
          exact sec_fin _ _
        · rw [if_neg g, if_neg (by omega)]; rfl
      · rw [if_neg (by rw [isCol_iff]; exact hp), if_neg (fun x => hp x.1)]; rfl
    · rw [if_neg h, if_neg (by omega)]; rfl
/-- A day's text ahead of whatever. -/
theorem date_shape {l k : List UInt8} {v : Int} (h : dateP l = some (v, k)) : ∃ pre, l = pre ++ k ∧ (∀ x ∈ pre, isSep x = false) ∧ ∀ j, dateP (pre ++ j) = some (v, j) := by
  rw [dateP_eq, Option.bind_eq_some_iff] at h
  obtain ⟨⟨y, t⟩, hy, ht⟩ := h
  obtain ⟨a, b, c, d, n, et, h1, h2, hn, rfl⟩ := dateR_shape ht
  have hdg : ∀ a b : UInt8, 0 ≤ twoV a b → isDg a = true ∧ isDg b = true := by
    intro a b h
    by_cases g : isDg a = true ∧ isDg b = true
    · exact g
    · rw [two_no g] at h; omega
  have ⟨ha, hb⟩ := hdg a b h1
  have ⟨hc, hd⟩ := hdg c d h2
  unfold yrP at hy
  split at hy
  · rename_i g
    cases hy
    have hall : ∀ x ∈ l.takeWhile isDg, isDg x = true := fun x hx => by
      have := List.all_takeWhile (p := isDg) (l := l)
      rw [List.all_eq_true] at this
      exact this x hx
    refine ⟨l.takeWhile isDg ++ [45, a, b, 45, c, d], ?_, ?_, ?_⟩
    · have := List.takeWhile_append_dropWhile (p := isDg) (l := l)
      rw [List.append_assoc]
      show l = _ ++ (45 :: a :: b :: 45 :: c :: d :: k)
      rw [← et]; exact this.symm
    · intro x hx
      rw [List.mem_append] at hx
      simp only [List.mem_cons, List.not_mem_nil, or_false] at hx
      rcases hx with hx | rfl | rfl | rfl | rfl | rfl | rfl
      · exact dg_sep (hall x hx)
      · decide
      · exact dg_sep ha
      · exact dg_sep hb
      · decide
      · exact dg_sep hc
      · exact dg_sep hd
    · intro j
      rw [List.append_assoc]
      show dateP (_ ++ (45 :: a :: b :: 45 :: c :: d :: j)) = _
      have ⟨t1, t2⟩ := takeWhile_all (k := 45 :: a :: b :: 45 :: c :: d :: j) hall (fun x r' e => by cases e; decide)
      rw [dateP_eq]
      unfold yrP
      rw [t1, t2, if_pos g, Option.bind_some]
      exact dateR_is j h1 h2 hn
  · cases hy
theorem drop_none : ∀ {l : List UInt8}, (∀ x ∈ l, isSep x = false) → l.dropWhile (fun c => !isSep c) = []
  | [], _ => rfl
  | c :: l, h => by
    rw [List.dropWhile_cons, h c (List.mem_cons_self ..)]
    exact drop_none (fun x hx => h x (List.mem_cons_of_mem _ hx))
theorem local_fin (l : List UInt8) : fin (localP l) = localT l := by
  unfold localP
  have hsplit := List.takeWhile_append_dropWhile (p := fun c => !isSep c) (l := l)
  cases e : dateP l with
  | none =>
    rw [Option.bind_none]
    show none = localT l
    symm
    unfold localT
    cases g : l.dropWhile (fun c => !isSep c) with
    | nil => rfl
    | cons c r =>
      show (dateT _).bind _ = none
      cases h : dateT (l.takeWhile fun c => !isSep c) with
      | none => rfl
      | some n =>
        exfalso
        have hf := date_fin (l.takeWhile fun c => !isSep c)
        rw [h] at hf
        cases q : dateP (l.takeWhile fun c => !isSep c) with
        | none => rw [q] at hf; cases hf
        | some x =>
          obtain ⟨v, k⟩ := x
          obtain ⟨pre, hp, _, hj⟩ := date_shape q
          rw [g, hp, List.append_assoc] at hsplit
          have := hj (k ++ c :: r)
          rw [hsplit, e] at this
          cases this
  | some x =>
    obtain ⟨v, k⟩ := x
    obtain ⟨pre, rfl, hs, hj⟩ := date_shape e
    rw [Option.bind_some]
    have hpre : (dateT pre).map (· * 86400000) = some v := by
      rw [← date_fin]
      have := hj []
      rw [List.append_nil] at this
      rw [this]; rfl
    cases k with
    | nil =>
      have : (pre ++ []).dropWhile (fun c => !isSep c) = [] := by
        rw [List.append_nil]
        exact drop_none hs
      show none = localT _
      unfold localT
      rw [this]; rfl
    | cons c r =>
      rw [sign_cons]
      cases hc : isSep c with
      | true =>
        rw [if_pos rfl, Option.bind_some, local_is hs hc]
        cases hd : dateT pre with
        | none => rw [hd] at hpre; cases hpre
        | some n =>
          rw [hd] at hpre
          cases hpre
          rw [Option.bind_some, ← time_fin]
          cases timeP r with
          | none => rfl
          | some x =>
            obtain ⟨t, k⟩ := x
            cases k <;> rfl
      | false =>
        rw [if_neg (by simp)]
        show none = localT _
        symm
        unfold localT
        have h1 : (pre ++ c :: r).takeWhile (fun c => !isSep c) = pre ++ c :: r.takeWhile (fun c => !isSep c) := by
          rw [List.takeWhile_append_of_pos (fun x hx => by simp [hs x hx]), List.takeWhile_cons, hc]; rfl
        rw [h1]
        have h2 : dateT (pre ++ c :: r.takeWhile (fun c => !isSep c)) = none := by
          have := date_fin (pre ++ c :: r.takeWhile (fun c => !isSep c))
          rw [hj] at this
          cases q : dateT (pre ++ c :: r.takeWhile (fun c => !isSep c)) with
          | none => rfl
          | some n => rw [q] at this; cases this
        rw [h2]
        cases (pre ++ c :: r).dropWhile (fun c => !isSep c) <;> rfl

/-- What strconv.Atoi answers for digits. -/
theorem mag_digits : ∀ (l : List UInt8) (acc : Nat), (∀ c ∈ l, isDg c = true) → acc < 18446744073709551616 →
    (Lib.parseUint10 acc l = .ok (natFrom acc l) ∧ natFrom acc l < 18446744073709551616) ∨ (Lib.parseUint10 acc l = .range ∧ 18446744073709551616 ≤ natFrom acc l)
  | [], acc, _, ha => .inl ⟨rfl, ha⟩
  | c :: r, acc, h, ha => by
    have hc := (isDg_iff c).1 (h c (List.mem_cons_self ..))
    have e : natFrom acc (c :: r) = natFrom (acc * 10 + (c.toNat - 48)) r := by
      show natFrom (10 * acc + dg c) r = _
      rw [Nat.mul_comm]; rfl
    have hg := natFrom_ge (acc * 10 + (c.toNat - 48)) r
    unfold Lib.parseUint10
    rw [if_pos hc, e]
    by_cases h1 : 1844674407370955162 ≤ acc
    · rw [if_pos h1]; exact .inr ⟨rfl, by omega⟩
    · rw [if_neg h1]
      by_cases h2 : 18446744073709551616 ≤ acc * 10 + (c.toNat - 48)
      · rw [if_pos h2]; exact .inr ⟨rfl, by omega⟩
      · rw [if_neg h2]
        exact mag_digits r _ (fun d hd => h d (List.mem_cons_of_mem _ hd)) (by omega)
theorem atoi_digits {ds : List UInt8} (h : ∀ c ∈ ds, isDg c = true) :
    (ds = [] ∧ valV ds = none) ∨ (Lib.atoiAll ds = .ok (natOf ds) ∧ natOf ds ≤ maxI ∧ valV ds = some (natOf ds : Int)) ∨ (Lib.atoiAll ds = .range ∧ Lib.atoiSat ds = 9223372036854775807 ∧ valV ds = none) := by
  cases ds with
  | nil => exact .inl ⟨rfl, rfl⟩
  | cons c r =>
    have hc := (isDg_iff c).1 (h c (List.mem_cons_self ..))
    right
    rw [Lib.atoiAll_plain c r (by omega) (by omega), Lib.atoiSat_other c r (by omega)]
    have hm : Lib.parseMag (c :: r) = Lib.parseUint10 0 (c :: r) := by unfold Lib.parseMag; rw [if_neg (by simp)]
    rw [hm]
    unfold valV maxI
    rcases mag_digits (c :: r) 0 h (by decide) with ⟨e, g⟩ | ⟨e, g⟩
    · rw [e]
      have g' : natOf (c :: r) < 18446744073709551616 := g
      show (Lib.signless (.ok (natOf (c :: r))) = _ ∧ _) ∨ _
      rw [show natFrom 0 (c :: r) = natOf (c :: r) from rfl]
      generalize natOf (c :: r) = N at *
      by_cases hN : 9223372036854775808 ≤ N
      · right
        refine ⟨?_, rfl, if_neg (by omega)⟩
        unfold Lib.signless
        simp [hN]
      · left
        refine ⟨?_, by omega, if_pos ⟨by simp, by omega⟩⟩
        unfold Lib.signless
        simp [hN]
    · right
      rw [e]
      have g' : 18446744073709551616 ≤ natOf (c :: r) := g
      exact ⟨rfl, rfl, if_neg (by omega)⟩

end Go.Proofs.YtpkpkpiphgjbaaaGreatDoor
