/- Joined texts. ColTwo: Two bytes that are appended at once; the hexadecimal digits with small letters: plain facts of no program. No condition. ColLib: What strings.IndexByte answers: the shelf's contract, laid at this program. No condition. HexRef: The document's Digit: the number of a hexadecimal digit, or -1. No condition. ColTC: The document's Simple and Clean of layer 6 alone: never beside ColRef. Conditions: texts as every row has them. ColPTC: The program's Simple and Clean of colours alone: they answer by the functions of 'Col'; what lay in the world lies there still. Conditions: texts as long as every row has them. CleanProg: The program's Value of layer 13: what a value becomes, by 'CleanIs'; what lay in the world lies there still. Conditions: a row of attributes as it lies in the world; texts of at most 100000 bytes; the tables of layer 12's road read as the texts lay them. -/
import Derived.WalkSmall
import Derived.Lib.IndexBytes
import Derived.Deep.RegionLaw
import Derived.Deep.AppendLies
import Derived.Laws.OwnMore
import Derived.Test.YtpkpkpiphgjbaaaGreatDoorJcl8
import Derived.Shelf.Small.Strs
import Derived.Test.YtpkpkpiphgjbaaaGreatDoorProg
import Derived.Test.YtpkpkpiphgjbaaaGreatDoorJcl19
import Derived.Test.YtpkpkpiphgjbaaaGreatDoorRows
import Derived.Test.YtpkpkpiphgjbaaaGreatDoorJcl2
import Derived.Test.YtpkpkpiphgjbaaaGreatDoorJcl7
import Derived.Test.YtpkpkpiphgjbaaaGreatDoorJcl14
import Derived.Test.YtpkpkpiphgjbaaaGreatDoorJcl25
import Derived.Test.YtpkpkpiphgjbaaaGreatDoorJcl26
namespace Go.Proofs.YtpkpkpiphgjbaaaGreatDoor
open Go.RowKit

def digsS : ByteArray := ⟨#[48, 49, 50, 51, 52, 53, 54, 55, 56, 57, 97, 98, 99, 100, 101, 102]⟩
theorem digs_low (c : UInt8) : Lib.indexByte digsS.data.toList (lowB c) = hexV c := by
  have : ∀ n : Fin 256, Lib.indexByte digsS.data.toList (lowB (UInt8.ofNat n.val)) = hexV (UInt8.ofNat n.val) := by decide +kernel
  have h := this ⟨c.toNat, c.toNat_lt⟩
  simpa using h
theorem low_at (s : ByteArray) (k : Nat) (h : k < s.size) (h' : k < (lowS s).size) : (lowS s)[k]'h' = lowB (byteAt s k) := by
  rw [byteAt_eq _ k h']
  unfold byteAt
  rw [lowS_data]
  unfold lowL
  have e : k < s.data.toList.length := by simpa using h
  simp [List.getD, h]
theorem colDigs_at (n : Nat) (h : n < 16) : (digsS[n]'h) = lowB (hexD n) := by
  have : ∀ n : Fin 16, (digsS[n.val]'n.isLt) = lowB (hexD n.val) := by decide +kernel
  exact this ⟨n, h⟩

/-- 'out = append(out, c, d)': the bytes were laid in a block of their own first. -/
theorem wpList_append_two {P : Program} {t e st : TypeId} (bt : ByteTypes P t e st) {ops : Array Oper} {rest : List Oper} {o : Oper} {a : Act} {Q : Exit → Act → World → Prop} (w : World) (y z : Int)
    (hgd : o.guard = none) (s x : Operand) (ho : o.op = .call { callee := .builtin .append, args := #[s, x], argTypes := #[t, t] })
    (base : Nat) (v : Value) (l : List UInt8) (c d : UInt8) (hy : y = (c.toNat : Int)) (hz : z = (d.toNat : Int)) (hs : a.eval s = v) (hown : OwnsB e base w v l)
    (hx : a.eval x = .slice (some ⟨w.heap.size, 0, none⟩) 2 2) (hlen : l.length ≤ 70368744177664) (hbase : base ≤ w.heap.size)
    (h : ∀ v' w', OwnsB e base w' v' (l ++ [c, d]) → Below base w w' → wpList P ops Q rest (a.put o.dst v') w') : wpList P ops Q (o :: rest) a (w.alloc (.cells #[.int .u8 y, .int .u8 z] e)) := by
  subst hy hz
  obtain ⟨i, hi, hz0, hz1, hz2⟩ := info_parts bt.info
  have hown' : (w.alloc (.cells #[.int .u8 (c.toNat : Int), .int .u8 (d.toNat : Int)] e)).ownsRow base e 1 v l.length (l.map cellB) := World.ownsRow.alloc hown _
  refine wpList_append_own (P := P) _ hgd s x t ho base e i (.int .u8 0) 1 1 bt.sl hi hz0 hz1 hz2 rfl (by decide) v l.length (l.map cellB) hs hown' ⟨w.heap.size, 0, none⟩ 2 2 [cellB c, cellB d] hx rfl (cell_two_new _ _ _ _) (fun u hu => by simp at hu; rcases hu with rfl | rfl <;> rfl) (by unfold maxLen; omega) (by omega) (by simp; omega) ?_
  intro v' w' h1 h2 _
  refine h v' w' ?_ (((Below.refl base w).alloc hbase _).trans (grown_below hown' h2 (by simp; omega)))
  simpa [OwnsB] using h1

/-- .. as one step of a statement that draws its order. -/
theorem step_append_two {P : Program} {t e st : TypeId} (bt : ByteTypes P t e st) {ops : Array Oper} {o : Oper} {a : Act} {K : Act → World → Prop} {Q : Exit → Act → World → Prop} {E : Prop} (w : World) (y z : Int)
    (hgd : o.guard = none) (s x : Operand) (ho : o.op = .call { callee := .builtin .append, args := #[s, x], argTypes := #[t, t] })
    (base : Nat) (v : Value) (l : List UInt8) (c d : UInt8) (hy : y = (c.toNat : Int)) (hz : z = (d.toNat : Int)) (hs : a.eval s = v) (hown : OwnsB e base w v l)
    (hx : a.eval x = .slice (some ⟨w.heap.size, 0, none⟩) 2 2) (hlen : l.length ≤ 70368744177664) (hbase : base ≤ w.heap.size)
    (h : ∀ v' w', OwnsB e base w' v' (l ++ [c, d]) → Below base w w' → K (a.put o.dst v') w') : if Region.wanted o (yielded ops a.tmps) = true then Oper.wp P o a (w.alloc (.cells #[.int .u8 y, .int .u8 z] e)).drew K Q else E := by
  subst hy hz
  obtain ⟨i, hi, hz0, hz1, hz2⟩ := info_parts bt.info
  have hown0 : (w.alloc (.cells #[.int .u8 (c.toNat : Int), .int .u8 (d.toNat : Int)] e)).ownsRow base e 1 v l.length (l.map cellB) := World.ownsRow.alloc hown _
  have hown' : (w.alloc (.cells #[.int .u8 (c.toNat : Int), .int .u8 (d.toNat : Int)] e)).drew.ownsRow base e 1 v l.length (l.map cellB) := ownsRow_below hown0 (Below.drew (Below.refl _ _))
  refine step_append_lies _ hgd s x t ho base e i (.int .u8 0) 1 1 bt.sl hi hz0 hz1 hz2 rfl (by decide) v l.length (l.map cellB) hs hown' ⟨w.heap.size, 0, none⟩ 2 2 [cellB c, cellB d] hx rfl (cell_two_new _ _ _ _) (fun u hu => by simp at hu; rcases hu with rfl | rfl <;> rfl) (by decide) (by unfold maxLen; omega) (by omega) (by simp; omega) _ rfl ?_
  intro g cap w' h1 h2 _ _
  refine h _ w' ?_ (((Below.refl base w).alloc hbase _).drew.trans (grown_below hown' h2 (by simp; omega)))
  simpa [OwnsB] using h1

def low2 (c : UInt8) : List UInt8 := [lowB (hexD (c.toNat / 16)), lowB (hexD (c.toNat % 16))]
theorem colL_low2 (r g b : UInt8) : colL r g b = [35] ++ low2 r ++ low2 g ++ low2 b := colL_eq r g b
theorem ownsB_one (w : World) (e : TypeId) (c : UInt8) : OwnsB e w.heap.size (w.alloc (.cells #[.int .u8 (c.toNat : Int)] e)) (.slice (some ⟨w.heap.size, 0, none⟩) 1 1) [c] := World.ownsRow_lit w #[.int .u8 (c.toNat : Int)] 1 (Nat.le_refl _) (by decide) rfl

end Go.Proofs.YtpkpkpiphgjbaaaGreatDoor

namespace Go.Proofs.YtpkpkpiphgjbaaaGreatDoor
open Go.Shelf Go.RowKit


end Go.Proofs.YtpkpkpiphgjbaaaGreatDoor

namespace Go.Proofs.YtpkpkpiphgjbaaaGreatDoor
open Go.RowKit
set_option maxRecDepth 100000

def num22 (k : Nat) : Int := if k < 10 then (48 : Int) + k else if k < 16 then (55 : Int) + k else (81 : Int) + k
theorem at22 (k : Nat) (hk : k < (⟨#[48, 49, 50, 51, 52, 53, 54, 55, 56, 57, 65, 66, 67, 68, 69, 70, 97, 98, 99, 100, 101, 102]⟩ : ByteArray).size) : (((⟨#[48, 49, 50, 51, 52, 53, 54, 55, 56, 57, 65, 66, 67, 68, 69, 70, 97, 98, 99, 100, 101, 102]⟩ : ByteArray)[k].toNat : Nat) : Int) = num22 k := by
  have : ∀ n : Fin 22, (((⟨#[48, 49, 50, 51, 52, 53, 54, 55, 56, 57, 65, 66, 67, 68, 69, 70, 97, 98, 99, 100, 101, 102]⟩ : ByteArray)[n.val]'(by have := n.isLt; exact this)).toNat : Int) = num22 n.val := by decide
  exact this ⟨k, hk⟩
def NotTo22 (x : Int) (k : Nat) : Prop := ∀ j, j < k → num22 j ≠ x
theorem notTo22_succ {x : Int} {k : Nat} (h : NotTo22 x k) (he : num22 k ≠ x) : NotTo22 x (k + 1) := by
  intro j hj
  rcases Nat.lt_or_ge j k with h' | h'
  · exact h j h'
  · obtain rfl : j = k := by omega
    exact he
theorem hexV_small {c : UInt8} {k : Nat} (hk : k ≤ 15) (he : num22 k = (c.toNat : Int)) : (k : Int) = hexV c := by
  unfold num22 at he
  unfold hexV
  by_cases h : k < 10
  · rw [if_pos h] at he; rw [if_pos (by omega)]; omega
  · rw [if_neg h, if_pos (by omega)] at he; rw [if_neg (by omega), if_pos (by omega)]; omega
theorem hexV_great {c : UInt8} {k : Nat} (hk : 15 < k) (h22 : k < 22) (he : num22 k = (c.toNat : Int)) : (k : Int) - 6 = hexV c := by
  unfold num22 at he
  rw [if_neg (by omega), if_neg (by omega)] at he
  unfold hexV
  rw [if_neg (by omega), if_neg (by omega), if_pos (by omega)]; omega
theorem hexV_not {c : UInt8} (h : NotTo22 (c.toNat : Int) 22) : -1 = hexV c := by
  unfold hexV
  by_cases h1 : 48 ≤ c.toNat ∧ c.toNat ≤ 57
  · exfalso
    refine h (c.toNat - 48) (by omega) ?_
    unfold num22; rw [if_pos (by omega)]; omega
  · by_cases h2 : 65 ≤ c.toNat ∧ c.toNat ≤ 70
    · exfalso
      refine h (c.toNat - 55) (by omega) ?_
      unfold num22; rw [if_neg (by omega), if_pos (by omega)]; omega
    · by_cases h3 : 97 ≤ c.toNat ∧ c.toNat ≤ 102
      · exfalso
        refine h (c.toNat - 81) (by omega) ?_
        unfold num22; rw [if_neg (by omega), if_neg (by omega)]; omega
      · rw [if_neg h1, if_neg h2, if_neg h3]

set_option maxHeartbeats 1000000 in
theorem refDigit_any (c : UInt8) (w : World) :
    Calls Tryz.prog 92 #[.int .u8 (c.toNat : Int)] w fun e w' => e = .returned (.int .i64 (hexV c)) ∧ w' = w := by
  go_enter Tryz.func92, Tryz.ntmps92
  go_wp2_with fail
  go_loop [4] (fun i => ∃ k : Nat, k ≤ 22 ∧ i = .int .i64 k ∧ NotTo22 (c.toNat : Int) k) (fun i => 22 - (intOf i).toNat)
  case atStart => exact ⟨0, Nat.zero_le _, rfl, fun j hj => absurd hj (Nat.not_lt_zero _)⟩
  case round =>
    obtain ⟨k, hk, rfl, hn⟩ := hrel
    have HN := hide hn
    clear hn
    by_cases hlt : k < 22
    · by_cases he : num22 k = (c.toNat : Int)
      · have q : ((((⟨#[48, 49, 50, 51, 52, 53, 54, 55, 56, 57, 65, 66, 67, 68, 69, 70, 97, 98, 99, 100, 101, 102]⟩ : ByteArray)[k]'hlt).toNat : Int) == (c.toNat : Int)) = true := by rw [at22 k hlt]; simpa using he
        by_cases h15 : k ≤ 15
        · have HV := hide (hexV_small h15 he)
          clear he
          go_wp2
          go_ret
          exact ⟨ret_int HV.out, rfl⟩
        · have HV := hide (hexV_great (by omega) hlt he)
          have h16 : (15 : Int) < (k : Int) := by omega
          clear he
          go_wp2
          go_ret
          exact ⟨ret_int HV.out, rfl⟩
      · have q : ((((⟨#[48, 49, 50, 51, 52, 53, 54, 55, 56, 57, 65, 66, 67, 68, 69, 70, 97, 98, 99, 100, 101, 102]⟩ : ByteArray)[k]'hlt).toNat : Int) == (c.toNat : Int)) = false := by rw [at22 k hlt]; simpa using he
        have HV := hide (notTo22_succ HN.out he)
        clear he
        go_wp2
        go_round
        case rel => exact ⟨k + 1, by omega, by go_num, HV.out⟩
        case measure => simp [intOf]; omega
    · have e : k = 22 := by omega
      subst e
      have HV := hide (hexV_not HN.out)
      go_wp2
      go_ret
      exact ⟨ret_int HV.out, rfl⟩

end Go.Proofs.YtpkpkpiphgjbaaaGreatDoor

namespace Go.Proofs.YtpkpkpiphgjbaaaGreatDoor
open Go.RowKit
set_option maxRecDepth 100000

theorem simple_short {s : ByteArray} (h : ¬ s.size = 7) : simpleL s.data.toList = false := by
  cases e : simpleL s.data.toList with
  | false => rfl
  | true => exact absurd (simple_at.1 e).1 h
theorem simple_sign {s : ByteArray} (h : ¬ byteAt s 0 = 35) : simpleL s.data.toList = false := by
  cases e : simpleL s.data.toList with
  | false => rfl
  | true => exact absurd (simple_at.1 e).2.1 h
theorem simple_digit {s : ByteArray} {k : Nat} (h1 : 1 ≤ k) (h2 : k < 7) (h : hexV (byteAt s k) < 0) : simpleL s.data.toList = false := by
  cases e : simpleL s.data.toList with
  | false => rfl
  | true =>
    have := (simple_at.1 e).2.2 k h1 h2
    omega

set_option maxHeartbeats 1000000 in
theorem refSimple_any (s : ByteArray) (w : World) (hs : s.size ≤ maxLen) :
    Calls Tryz.prog 59 #[.string s] w fun e w' => e = .returned (.bool (simpleL s.data.toList)) ∧ w' = w := by
  unfold maxLen at hs
  by_cases h7 : s.size = 7
  · have hlt : 0 < s.size := by omega
    have hz : s.size ≤ 7 := by omega
    have hz' : 7 ≤ s.size := by omega
    have b7 : ((s.size : Int) != 7) = false := by simp; omega
    have b7' : ((s.size : Int) == 7) = true := by simp; omega
    by_cases h35 : byteAt s 0 = 35
    · have e0 : (s[0].toNat : Int) = 35 := by rw [byteAt_eq s 0 hlt, h35]; rfl
      have b0 : ((s[0].toNat : Int) != 35) = false := by simp; omega
      have b0' : ((s[0].toNat : Int) == 35) = true := by simp; omega
      have AT := hide (fun (h : ∀ k, 1 ≤ k → k < 7 → 0 ≤ hexV (byteAt s k)) => simple_at.2 ⟨h7, h35, h⟩)
      clear h7 h35 e0
      go_enter Tryz.func59, Tryz.ntmps59
      go_wp2_with fail
      go_loop [3] (fun i => ∃ k : Nat, 1 ≤ k ∧ k ≤ 7 ∧ i = .int .i64 k ∧ Hid (∀ j, 1 ≤ j → j < k → 0 ≤ hexV (byteAt s j))) (fun i => 7 - (intOf i).toNat)
      case atStart => exact ⟨1, by decide, by decide, rfl, fun j h1 h2 => by omega⟩
      case round =>
        obtain ⟨k, k1, k7, rfl, hd⟩ := hrel
        by_cases g : k < 7
        · have hks : k < s.size := by omega
          have HD := hide (refDigit_any s[k] w)
          have eb := byteAt_eq s k hks
          by_cases hx : hexV (byteAt s k) < 0
          · have E := hide (simple_digit k1 g hx)
            rw [← eb] at hx
            clear eb AT hd
            generalize hexV s[k] = v at *
            go_wp2_with fail
            refine HD.out.mono ?_
            rintro e u ⟨rfl, rfl⟩
            go_wp2_with fail
            go_ret
            exact ⟨ret_bool E.out.symm, rfl⟩
          · have hd' : Hid (∀ j, 1 ≤ j → j < k + 1 → 0 ≤ hexV (byteAt s j)) := by
              intro j j1 j2
              rcases Nat.lt_or_ge j k with q | q
              · exact hd.out j j1 q
              · obtain rfl : j = k := by omega
                omega
            have hx' : 0 ≤ hexV (byteAt s k) := by omega
            rw [← eb] at hx'
            clear eb AT hd hx
            generalize hexV s[k] = v at *
            go_wp2_with fail
            refine HD.out.mono ?_
            rintro e u ⟨rfl, rfl⟩
            go_wp2_with fail
            go_round
            case rel => exact ⟨k + 1, by omega, by omega, by go_num, hd'⟩
            case measure => simp [intOf]; omega
        · obtain rfl : k = 7 := by omega
          have E := hide (AT.out hd.out)
          clear AT hd
          go_wp2_with fail
          go_ret
          exact ⟨ret_bool E.out.symm, rfl⟩
    · have E := hide (simple_sign h35)
      have e0 : ¬ (s[0].toNat : Int) = 35 := by
        rw [byteAt_eq s 0 hlt]
        intro x
        exact h35 (UInt8.toNat_inj.1 (by show (byteAt s 0).toNat = 35; omega))
      have b0 : ((s[0].toNat : Int) != 35) = true := by simp; omega
      have b0' : ((s[0].toNat : Int) == 35) = false := by simp; omega
      clear h7 h35 e0
      go_enter Tryz.func59, Tryz.ntmps59
      go_wp2_with fail
      go_ret
      exact ⟨ret_bool E.out.symm, rfl⟩
  · have E := hide (simple_short h7)
    have b7 : ((s.size : Int) != 7) = true := by simp; omega
    have b7' : ((s.size : Int) == 7) = false := by simp; omega
    clear h7
    go_enter Tryz.func59, Tryz.ntmps59
    go_wp2_with fail
    go_ret
    exact ⟨ret_bool E.out.symm, rfl⟩

set_option maxHeartbeats 1000000 in
theorem refClean_any (s : ByteArray) (w : World) (hs : s.size ≤ maxLen) :
    Calls Tryz.prog 33 #[.string s] w fun e w' => e = .returned (.string (txt (cleanL s.data.toList))) ∧ Below w.heap.size w w' := by
  have HS := hide (refSimple_any s w hs)
  cases h : simpleL s.data.toList with
  | true =>
    have h7 := (simple_at.1 h).1
    have HL := hide (refLower_any s w (by omega))
    have E := hide (clean_yes h)
    rw [h] at HS
    clear h h7 hs
    go_enter Tryz.func33, Tryz.ntmps33
    go_wp2_with fail
    refine HS.out.mono ?_
    rintro e u ⟨rfl, rfl⟩
    go_wp2_with fail
    refine HL.out.mono ?_
    rintro e v ⟨rfl, b1⟩
    go_wp2_with fail
    go_ret
    refine ⟨ret_str ?_, b1⟩
    rw [E.out]; rfl
  | false =>
    have E := hide (clean_no h)
    rw [h] at HS
    clear h hs
    go_enter Tryz.func33, Tryz.ntmps33
    go_wp2_with fail
    refine HS.out.mono ?_
    rintro e u ⟨rfl, rfl⟩
    go_wp2_with fail
    go_ret
    refine ⟨ret_str ?_, Below.refl _ _⟩
    rw [E.out]; rfl

end Go.Proofs.YtpkpkpiphgjbaaaGreatDoor

namespace Go.Proofs.YtpkpkpiphgjbaaaGreatDoor
open Go.RowKit
set_option maxRecDepth 100000

def ColTabs (_ : World) : Prop := True
theorem ColTabs.below {w w' : World} (_ : ColTabs w) (_ : Below w.heap.size w w') : ColTabs w' := trivial

theorem dig_is (s : ByteArray) (k : Nat) (h : k < s.size) (h' : k < (lowS s).size) (w : World) :
    Calls Tryz.prog 83 #[.string ⟨#[48, 49, 50, 51, 52, 53, 54, 55, 56, 57, 97, 98, 99, 100, 101, 102]⟩, .int .u8 (((lowS s)[k]'h').toNat : Int)] w fun e w' => e = .returned (.int .i64 (hexV (byteAt s k))) ∧ w' = w := by
  have := indexByte_is digsS ((lowS s)[k]'h') w
  rw [low_at s k h h', digs_low] at this
  rw [low_at s k h h']
  exact this

set_option maxHeartbeats 1000000 in
theorem colSimple_any (s : ByteArray) (w : World) (hs : s.size ≤ maxLen) (_hT : ColTabs w) :
    Calls Tryz.prog 50 #[.string s] w fun e w' => e = .returned (.bool (simpleL s.data.toList)) ∧ Below w.heap.size w w' := by
  by_cases h7 : s.size = 7
  · have hlt : 0 < s.size := by omega
    have hz : s.size ≤ 7 := by omega
    have hz' : 7 ≤ s.size := by omega
    have b7 : ((s.size : Int) != 7) = false := by simp; omega
    have b7' : ((s.size : Int) == 7) = true := by simp; omega
    by_cases h35 : byteAt s 0 = 35
    · have e0 : (s[0].toNat : Int) = 35 := by rw [byteAt_eq s 0 hlt, h35]; rfl
      have b0 : ((s[0].toNat : Int) != 35) = false := by simp; omega
      have b0' : ((s[0].toNat : Int) == 35) = true := by simp; omega
      have AT := hide (fun (h : ∀ k, 1 ≤ k → k < 7 → 0 ≤ hexV (byteAt s k)) => simple_at.2 ⟨h7, h35, h⟩)
      have HL := hide (lower_any s w hs)
      have HI := hide (fun k (h : k < s.size) h' w => dig_is s k h h' w)
      have zl : (lowS s).size = 7 := by rw [lowS_size]; exact h7
      have zl1 : (lowS s).size ≤ 7 := by omega
      have zl2 : 7 ≤ (lowS s).size := by omega
      have SD := hide (fun k h1 h2 h3 => simple_digit (s := s) (k := k) h1 h2 h3)
      clear h7 h35 e0 hs zl
      generalize lowS s = low at *
      go_enter Tryz.func50, Tryz.ntmps50
      go_wp2_with fail
      refine HL.out.mono ?_
      rintro e w1 ⟨rfl, b1⟩
      clear HL
      go_wp2_with fail
      go_loop [4] (fun i => ∃ k : Nat, 1 ≤ k ∧ k ≤ 7 ∧ i = .int .i64 k ∧ Hid (∀ j, 1 ≤ j → j < k → 0 ≤ hexV (byteAt s j))) (fun i => 7 - (intOf i).toNat)
      case atStart => exact ⟨1, by decide, by decide, rfl, fun j h1 h2 => by omega⟩
      case round =>
        obtain ⟨k, k1, k7, rfl, hd⟩ := hrel
        by_cases g : k < 7
        · have hks : k < s.size := by omega
          have hkl : k < low.size := by omega
          have HD := hide (fun w => HI.out k hks hkl w)
          by_cases hx : hexV (byteAt s k) < 0
          · have E := hide (SD.out k k1 g hx)
            clear AT hd HI SD
            generalize hexV (byteAt s k) = v at *
            go_wp2_with fail
            refine (HD.out _).mono ?_
            rintro e u ⟨rfl, rfl⟩
            go_wp2_with fail
            go_ret
            exact ⟨ret_bool E.out.symm, b1⟩
          · have hd' : Hid (∀ j, 1 ≤ j → j < k + 1 → 0 ≤ hexV (byteAt s j)) := by
              intro j j1 j2
              rcases Nat.lt_or_ge j k with q | q
              · exact hd.out j j1 q
              · obtain rfl : j = k := by omega
                omega
            have hx' : 0 ≤ hexV (byteAt s k) := by omega
            clear AT hd hx HI SD
            generalize hexV (byteAt s k) = v at *
            go_wp2_with fail
            refine (HD.out _).mono ?_
            rintro e u ⟨rfl, rfl⟩
            go_wp2_with fail
            go_round
            case rel => exact ⟨k + 1, by omega, by omega, by go_num, hd'⟩
            case measure => simp [intOf]; omega
        · obtain rfl : k = 7 := by omega
          have E := hide (AT.out hd.out)
          clear AT hd HI SD
          go_wp2_with fail
          go_ret
          exact ⟨ret_bool E.out.symm, b1⟩
    · have E := hide (simple_sign h35)
      have e0 : ¬ (s[0].toNat : Int) = 35 := by
        rw [byteAt_eq s 0 hlt]
        intro x
        exact h35 (UInt8.toNat_inj.1 (by show (byteAt s 0).toNat = 35; omega))
      have b0 : ((s[0].toNat : Int) != 35) = true := by simp; omega
      have b0' : ((s[0].toNat : Int) == 35) = false := by simp; omega
      clear h7 h35 e0 hs
      go_enter Tryz.func50, Tryz.ntmps50
      go_wp2_with fail
      go_ret
      exact ⟨ret_bool E.out.symm, Below.refl _ _⟩
  · have E := hide (simple_short h7)
    have b7 : ((s.size : Int) != 7) = true := by simp; omega
    have b7' : ((s.size : Int) == 7) = false := by simp; omega
    clear h7
    unfold maxLen at hs
    go_enter Tryz.func50, Tryz.ntmps50
    go_wp2_with fail
    go_ret
    exact ⟨ret_bool E.out.symm, Below.refl _ _⟩

set_option maxHeartbeats 1000000 in
theorem colClean_any (s : ByteArray) (w : World) (hs : s.size ≤ maxLen) (hT : ColTabs w) :
    Calls Tryz.prog 25 #[.string s] w fun e w' => e = .returned (.string (txt (cleanL s.data.toList))) ∧ Below w.heap.size w w' := by
  have HS := hide (colSimple_any s w hs hT)
  cases h : simpleL s.data.toList with
  | true =>
    have HL := hide (fun w => lower_any s w hs)
    have E := hide (clean_yes h)
    rw [h] at HS
    clear h hs
    go_enter Tryz.func25, Tryz.ntmps25
    go_wp2_with fail
    refine HS.out.mono ?_
    rintro e w1 ⟨rfl, b1⟩
    go_wp2_with fail
    refine (HL.out _).mono ?_
    rintro e v ⟨rfl, b2⟩
    go_wp2_with fail
    go_ret
    refine ⟨ret_str ?_, chain b1 b2⟩
    rw [E.out]; rfl
  | false =>
    have E := hide (clean_no h)
    have HC := hide (fun W => clone_any ⟨#[35, 48, 48, 48, 48, 48, 48]⟩ W (by decide))
    rw [h] at HS
    clear h hs
    go_enter Tryz.func25, Tryz.ntmps25
    go_wp2_with fail
    refine HS.out.mono ?_
    rintro e w1 ⟨rfl, b1⟩
    go_wp2_with fail
    refine (HC.out _).mono ?_
    rintro e w2 ⟨rfl, b2⟩
    go_wp2_with fail
    go_ret
    refine ⟨ret_str ?_, chain b1 b2⟩
    rw [E.out]; rfl

end Go.Proofs.YtpkpkpiphgjbaaaGreatDoor

namespace Go.Proofs.YtpkpkpiphgjbaaaGreatDoor
open Go.RowKit
set_option maxRecDepth 100000

abbrev ClTabs (w : World) : Prop := StTabs w
theorem ClTabs.below {w w' : World} (h : ClTabs w) (hb : Below w.heap.size w w') : ClTabs w' := StTabs.below h hb
set_option maxHeartbeats 8000000 in
theorem clV_2 (v : Value) (ax : List (ByteArray × ByteArray)) (w : World) (hv : AttrsV w v ax) (_hz : AxOK ax) (s : ByteArray)  (hs : s.size ≤ 100000) (_hT : ClTabs w) :
    Calls Tryz.prog 10 #[.int .i64 2, v, .string s] w fun e w' => e = .returned (.string (txt (noBrL s.data.toList))) ∧ Below w.heap.size w w' := by
  have HN := hide (noBreaks_any s w (by omega))
  obtain ⟨p, c, rfl, _⟩ := hv
  clear hs
  go_enter Tryz.func10, Tryz.ntmps10
  go_wp2_with fail
  refine HN.out.mono ?_
  rintro e w1 ⟨rfl, b1⟩
  go_wp2_with fail
  go_ret
  exact ⟨rfl, b1⟩
set_option maxHeartbeats 8000000 in
theorem clV_3 (v : Value) (ax : List (ByteArray × ByteArray)) (w : World) (hv : AttrsV w v ax) (_hz : AxOK ax) (s : ByteArray)  (hs : s.size ≤ 100000) (_hT : ClTabs w) :
    Calls Tryz.prog 10 #[.int .i64 3, v, .string s] w fun e w' => e = .returned (.string (txt (noBrL s.data.toList))) ∧ Below w.heap.size w w' := by
  have HN := hide (noBreaks_any s w (by omega))
  obtain ⟨p, c, rfl, _⟩ := hv
  clear hs
  go_enter Tryz.func10, Tryz.ntmps10
  go_wp2_with fail
  refine HN.out.mono ?_
  rintro e w1 ⟨rfl, b1⟩
  go_wp2_with fail
  go_ret
  exact ⟨rfl, b1⟩
set_option maxHeartbeats 8000000 in
theorem clV_4 (v : Value) (ax : List (ByteArray × ByteArray)) (w : World) (hv : AttrsV w v ax) (_hz : AxOK ax) (s : ByteArray)  (hs : s.size ≤ 100000) (_hT : ClTabs w) :
    Calls Tryz.prog 10 #[.int .i64 4, v, .string s] w fun e w' => e = .returned (.string (txt (noBrL s.data.toList))) ∧ Below w.heap.size w w' := by
  have HN := hide (noBreaks_any s w (by omega))
  obtain ⟨p, c, rfl, _⟩ := hv
  clear hs
  go_enter Tryz.func10, Tryz.ntmps10
  go_wp2_with fail
  refine HN.out.mono ?_
  rintro e w1 ⟨rfl, b1⟩
  go_wp2_with fail
  go_ret
  exact ⟨rfl, b1⟩
set_option maxHeartbeats 8000000 in
theorem clV_7 (v : Value) (ax : List (ByteArray × ByteArray)) (w : World) (hv : AttrsV w v ax) (_hz : AxOK ax) (s : ByteArray)  (hs : s.size ≤ 100000) (_hT : ClTabs w) :
    Calls Tryz.prog 10 #[.int .i64 7, v, .string s] w fun e w' => e = .returned (.string (txt (noBrL s.data.toList))) ∧ Below w.heap.size w w' := by
  have HN := hide (noBreaks_any s w (by omega))
  obtain ⟨p, c, rfl, _⟩ := hv
  clear hs
  go_enter Tryz.func10, Tryz.ntmps10
  go_wp2_with fail
  refine HN.out.mono ?_
  rintro e w1 ⟨rfl, b1⟩
  go_wp2_with fail
  go_ret
  exact ⟨rfl, b1⟩
set_option maxHeartbeats 8000000 in
theorem clV_5 (v : Value) (ax : List (ByteArray × ByteArray)) (w : World) (hv : AttrsV w v ax) (_hz : AxOK ax) (s : ByteArray)  (hs : s.size ≤ 100000) (hT : ClTabs w) :
    Calls Tryz.prog 10 #[.int .i64 5, v, .string s] w fun e w' => e = .returned (.string (txt (trimM s.data.toList))) ∧ Below w.heap.size w w' := by
  have HN := hide (mailTrim_any s w hs hT.max)
  obtain ⟨p, c, rfl, _⟩ := hv
  clear hs hT
  go_enter Tryz.func10, Tryz.ntmps10
  go_wp2_with fail
  refine HN.out.mono ?_
  rintro e w1 ⟨rfl, b1⟩
  go_wp2_with fail
  go_ret
  exact ⟨rfl, b1⟩
set_option maxHeartbeats 8000000 in
theorem clV_6y (v : Value) (ax : List (ByteArray × ByteArray)) (w : World) (hv : AttrsV w v ax) (hz : AxOK ax) (s : ByteArray) (hf : (findA ax multS).isSome = true) (hs : s.size ≤ 100000) (hT : ClTabs w) :
    Calls Tryz.prog 10 #[.int .i64 6, v, .string s] w fun e w' => e = .returned (.string (txt (cleanM s.data.toList))) ∧ Below w.heap.size w w' := by
  have HN := hide (clMail_y v ax w hv hz s hs hf hT)
  obtain ⟨p, c, rfl, _⟩ := hv
  clear hz hs hT hf
  go_enter Tryz.func10, Tryz.ntmps10
  go_wp2_with fail
  refine HN.out.mono ?_
  rintro e w1 ⟨rfl, b1⟩
  go_wp2_with fail
  go_ret
  exact ⟨rfl, b1⟩
set_option maxHeartbeats 8000000 in
theorem clV_6n (v : Value) (ax : List (ByteArray × ByteArray)) (w : World) (hv : AttrsV w v ax) (hz : AxOK ax) (s : ByteArray) (hf : (findA ax multS).isSome = false) (hs : s.size ≤ 100000) (hT : ClTabs w) :
    Calls Tryz.prog 10 #[.int .i64 6, v, .string s] w fun e w' => e = .returned (.string (txt (trimM s.data.toList))) ∧ Below w.heap.size w w' := by
  have HN := hide (clMail_n v ax w hv hz s hs hf hT)
  obtain ⟨p, c, rfl, _⟩ := hv
  clear hz hs hT hf
  go_enter Tryz.func10, Tryz.ntmps10
  go_wp2_with fail
  refine HN.out.mono ?_
  rintro e w1 ⟨rfl, b1⟩
  go_wp2_with fail
  go_ret
  exact ⟨rfl, b1⟩
set_option maxHeartbeats 8000000 in
theorem clV_8y (v : Value) (ax : List (ByteArray × ByteArray)) (w : World) (hv : AttrsV w v ax) (_hz : AxOK ax) (s : ByteArray) (hf : (numK 8 s.data.toList).isSome = true) (hs : s.size ≤ 100000) (hT : ClTabs w) :
    Calls Tryz.prog 10 #[.int .i64 8, v, .string s] w fun e w' => e = .returned (.string s) ∧ Below w.heap.size w w' := by
  have HN := hide (clCount_y 8 s w hs hf hT)
  obtain ⟨p, c, rfl, _⟩ := hv
  clear hs hT hf
  go_enter Tryz.func10, Tryz.ntmps10
  go_wp2_with fail
  refine HN.out.mono ?_
  rintro e w1 ⟨rfl, b1⟩
  go_wp2_with fail
  go_ret
  exact ⟨rfl, b1⟩
set_option maxHeartbeats 8000000 in
theorem clV_8n (v : Value) (ax : List (ByteArray × ByteArray)) (w : World) (hv : AttrsV w v ax) (_hz : AxOK ax) (s : ByteArray) (hf : (numK 8 s.data.toList).isSome = false) (hs : s.size ≤ 100000) (hT : ClTabs w) :
    Calls Tryz.prog 10 #[.int .i64 8, v, .string s] w fun e w' => e = .returned (.string ⟨#[]⟩) ∧ Below w.heap.size w w' := by
  have HN := hide (clCount_n 8 s w hs hf hT)
  obtain ⟨p, c, rfl, _⟩ := hv
  clear hs hT hf
  go_enter Tryz.func10, Tryz.ntmps10
  go_wp2_with fail
  refine HN.out.mono ?_
  rintro e w1 ⟨rfl, b1⟩
  go_wp2_with fail
  go_ret
  exact ⟨rfl, b1⟩
set_option maxHeartbeats 8000000 in
theorem clV_9y (v : Value) (ax : List (ByteArray × ByteArray)) (w : World) (hv : AttrsV w v ax) (_hz : AxOK ax) (s : ByteArray) (hf : (numK 9 s.data.toList).isSome = true) (hs : s.size ≤ 100000) (hT : ClTabs w) :
    Calls Tryz.prog 10 #[.int .i64 9, v, .string s] w fun e w' => e = .returned (.string s) ∧ Below w.heap.size w w' := by
  have HN := hide (clCount_y 9 s w hs hf hT)
  obtain ⟨p, c, rfl, _⟩ := hv
  clear hs hT hf
  go_enter Tryz.func10, Tryz.ntmps10
  go_wp2_with fail
  refine HN.out.mono ?_
  rintro e w1 ⟨rfl, b1⟩
  go_wp2_with fail
  go_ret
  exact ⟨rfl, b1⟩
set_option maxHeartbeats 8000000 in
theorem clV_9n (v : Value) (ax : List (ByteArray × ByteArray)) (w : World) (hv : AttrsV w v ax) (_hz : AxOK ax) (s : ByteArray) (hf : (numK 9 s.data.toList).isSome = false) (hs : s.size ≤ 100000) (hT : ClTabs w) :
    Calls Tryz.prog 10 #[.int .i64 9, v, .string s] w fun e w' => e = .returned (.string ⟨#[]⟩) ∧ Below w.heap.size w w' := by
  have HN := hide (clCount_n 9 s w hs hf hT)
  obtain ⟨p, c, rfl, _⟩ := hv
  clear hs hT hf
  go_enter Tryz.func10, Tryz.ntmps10
  go_wp2_with fail
  refine HN.out.mono ?_
  rintro e w1 ⟨rfl, b1⟩
  go_wp2_with fail
  go_ret
  exact ⟨rfl, b1⟩
set_option maxHeartbeats 8000000 in
theorem clV_10y (v : Value) (ax : List (ByteArray × ByteArray)) (w : World) (hv : AttrsV w v ax) (_hz : AxOK ax) (s : ByteArray) (hf : (numK 10 s.data.toList).isSome = true) (hs : s.size ≤ 100000) (hT : ClTabs w) :
    Calls Tryz.prog 10 #[.int .i64 10, v, .string s] w fun e w' => e = .returned (.string s) ∧ Below w.heap.size w w' := by
  have HN := hide (clCount_y 10 s w hs hf hT)
  obtain ⟨p, c, rfl, _⟩ := hv
  clear hs hT hf
  go_enter Tryz.func10, Tryz.ntmps10
  go_wp2_with fail
  refine HN.out.mono ?_
  rintro e w1 ⟨rfl, b1⟩
  go_wp2_with fail
  go_ret
  exact ⟨rfl, b1⟩
set_option maxHeartbeats 8000000 in
theorem clV_10n (v : Value) (ax : List (ByteArray × ByteArray)) (w : World) (hv : AttrsV w v ax) (_hz : AxOK ax) (s : ByteArray) (hf : (numK 10 s.data.toList).isSome = false) (hs : s.size ≤ 100000) (hT : ClTabs w) :
    Calls Tryz.prog 10 #[.int .i64 10, v, .string s] w fun e w' => e = .returned (.string ⟨#[]⟩) ∧ Below w.heap.size w w' := by
  have HN := hide (clCount_n 10 s w hs hf hT)
  obtain ⟨p, c, rfl, _⟩ := hv
  clear hs hT hf
  go_enter Tryz.func10, Tryz.ntmps10
  go_wp2_with fail
  refine HN.out.mono ?_
  rintro e w1 ⟨rfl, b1⟩
  go_wp2_with fail
  go_ret
  exact ⟨rfl, b1⟩
set_option maxHeartbeats 8000000 in
theorem clV_11y (v : Value) (ax : List (ByteArray × ByteArray)) (w : World) (hv : AttrsV w v ax) (_hz : AxOK ax) (s : ByteArray) (hf : (numK 11 s.data.toList).isSome = true) (hs : s.size ≤ 100000) (hT : ClTabs w) :
    Calls Tryz.prog 10 #[.int .i64 11, v, .string s] w fun e w' => e = .returned (.string s) ∧ Below w.heap.size w w' := by
  have HN := hide (clCount_y 11 s w hs hf hT)
  obtain ⟨p, c, rfl, _⟩ := hv
  clear hs hT hf
  go_enter Tryz.func10, Tryz.ntmps10
  go_wp2_with fail
  refine HN.out.mono ?_
  rintro e w1 ⟨rfl, b1⟩
  go_wp2_with fail
  go_ret
  exact ⟨rfl, b1⟩
set_option maxHeartbeats 8000000 in
theorem clV_11n (v : Value) (ax : List (ByteArray × ByteArray)) (w : World) (hv : AttrsV w v ax) (_hz : AxOK ax) (s : ByteArray) (hf : (numK 11 s.data.toList).isSome = false) (hs : s.size ≤ 100000) (hT : ClTabs w) :
    Calls Tryz.prog 10 #[.int .i64 11, v, .string s] w fun e w' => e = .returned (.string ⟨#[]⟩) ∧ Below w.heap.size w w' := by
  have HN := hide (clCount_n 11 s w hs hf hT)
  obtain ⟨p, c, rfl, _⟩ := hv
  clear hs hT hf
  go_enter Tryz.func10, Tryz.ntmps10
  go_wp2_with fail
  refine HN.out.mono ?_
  rintro e w1 ⟨rfl, b1⟩
  go_wp2_with fail
  go_ret
  exact ⟨rfl, b1⟩
set_option maxHeartbeats 8000000 in
theorem clV_13y (v : Value) (ax : List (ByteArray × ByteArray)) (w : World) (hv : AttrsV w v ax) (_hz : AxOK ax) (s : ByteArray) (hf : (numK 13 s.data.toList).isSome = true) (hs : s.size ≤ 100000) (hT : ClTabs w) :
    Calls Tryz.prog 10 #[.int .i64 13, v, .string s] w fun e w' => e = .returned (.string s) ∧ Below w.heap.size w w' := by
  have HN := hide (clCount_y 13 s w hs hf hT)
  obtain ⟨p, c, rfl, _⟩ := hv
  clear hs hT hf
  go_enter Tryz.func10, Tryz.ntmps10
  go_wp2_with fail
  refine HN.out.mono ?_
  rintro e w1 ⟨rfl, b1⟩
  go_wp2_with fail
  go_ret
  exact ⟨rfl, b1⟩
set_option maxHeartbeats 8000000 in
theorem clV_13n (v : Value) (ax : List (ByteArray × ByteArray)) (w : World) (hv : AttrsV w v ax) (_hz : AxOK ax) (s : ByteArray) (hf : (numK 13 s.data.toList).isSome = false) (hs : s.size ≤ 100000) (hT : ClTabs w) :
    Calls Tryz.prog 10 #[.int .i64 13, v, .string s] w fun e w' => e = .returned (.string ⟨#[]⟩) ∧ Below w.heap.size w w' := by
  have HN := hide (clCount_n 13 s w hs hf hT)
  obtain ⟨p, c, rfl, _⟩ := hv
  clear hs hT hf
  go_enter Tryz.func10, Tryz.ntmps10
  go_wp2_with fail
  refine HN.out.mono ?_
  rintro e w1 ⟨rfl, b1⟩
  go_wp2_with fail
  go_ret
  exact ⟨rfl, b1⟩
set_option maxHeartbeats 8000000 in
theorem clV_12n (v : Value) (ax : List (ByteArray × ByteArray)) (w : World) (hv : AttrsV w v ax) (_hz : AxOK ax) (s : ByteArray) (hf : numK 12 s.data.toList = none) (hs : s.size ≤ 100000) (hT : ClTabs w) :
    Calls Tryz.prog 10 #[.int .i64 12, v, .string s] w fun e w' => e = .returned (.string ⟨#[]⟩) ∧ Below w.heap.size w w' := by
  have HN := hide (clLocal_n s w hs hf hT)
  obtain ⟨p, c, rfl, _⟩ := hv
  clear hs hT hf
  go_enter Tryz.func10, Tryz.ntmps10
  go_wp2_with fail
  refine HN.out.mono ?_
  rintro e w1 ⟨rfl, b1⟩
  go_wp2_with fail
  go_ret
  exact ⟨rfl, b1⟩
set_option maxHeartbeats 8000000 in
theorem clV_12y (v : Value) (ax : List (ByteArray × ByteArray)) (w : World) (hv : AttrsV w v ax) (_hz : AxOK ax) (s : ByteArray) (n : Int) (t : List UInt8) (hf : numK 12 s.data.toList = some n) (ho : ShK 12 n (some t)) (hs : s.size ≤ 100000) (hT : ClTabs w) :
    Calls Tryz.prog 10 #[.int .i64 12, v, .string s] w fun e w' => e = .returned (.string (txt t)) ∧ Below w.heap.size w w' := by
  have HN := hide (clLocal_y s w hs n t hf ho hT)
  obtain ⟨p, c, rfl, _⟩ := hv
  clear hs hT hf ho
  go_enter Tryz.func10, Tryz.ntmps10
  go_wp2_with fail
  refine HN.out.mono ?_
  rintro e w1 ⟨rfl, b1⟩
  go_wp2_with fail
  go_ret
  exact ⟨rfl, b1⟩
set_option maxHeartbeats 8000000 in
theorem clV_14 (v : Value) (ax : List (ByteArray × ByteArray)) (w : World) (hv : AttrsV w v ax) (hz : AxOK ax) (s : ByteArray)  (hs : s.size ≤ 100000) (hT : ClTabs w) :
    Calls Tryz.prog 10 #[.int .i64 14, v, .string s] w fun e w' => e = .returned (.string (txt (rangeT ax s.data.toList))) ∧ Below w.heap.size w w' := by
  have HN := hide (clRange_any v ax w hv hz s hs hT)
  generalize txt (rangeT ax s.data.toList) = rt at *
  obtain ⟨p, c, rfl, _⟩ := hv
  clear hz hs hT
  go_enter Tryz.func10, Tryz.ntmps10
  go_wp2_with fail
  refine HN.out.mono ?_
  rintro e w1 ⟨rfl, b1⟩
  go_wp2_with fail
  go_ret
  exact ⟨rfl, b1⟩
set_option maxHeartbeats 8000000 in
theorem clV_15 (v : Value) (ax : List (ByteArray × ByteArray)) (w : World) (hv : AttrsV w v ax) (_hz : AxOK ax) (s : ByteArray)  (hs : s.size ≤ 100000) (_hT : ClTabs w) :
    Calls Tryz.prog 10 #[.int .i64 15, v, .string s] w fun e w' => e = .returned (.string (txt (cleanL s.data.toList))) ∧ Below w.heap.size w w' := by
  have HN := hide (colClean_any s w (by unfold maxLen; omega) trivial)
  obtain ⟨p, c, rfl, _⟩ := hv
  clear hs
  go_enter Tryz.func10, Tryz.ntmps10
  go_wp2_with fail
  refine HN.out.mono ?_
  rintro e w1 ⟨rfl, b1⟩
  go_wp2_with fail
  go_ret
  exact ⟨rfl, b1⟩
set_option maxHeartbeats 8000000 in
theorem clV_else (v : Value) (ax : List (ByteArray × ByteArray)) (w : World) (hv : AttrsV w v ax) (_hz : AxOK ax) (s : ByteArray) (k : Int) (hk : k < 2 ∨ 15 < k) (hs : s.size ≤ 100000) (_hT : ClTabs w) :
    Calls Tryz.prog 10 #[.int .i64 k, v, .string s] w fun e w' => e = .returned (.string s) ∧ Below w.heap.size w w' := by
  have HN := hide (clone_any s w (by omega))
  have k2 : (k == 2) = false := by rw [beq_eq_false_iff_ne]; omega
  have m2 : ¬ k = 2 := by omega
  have k3 : (k == 3) = false := by rw [beq_eq_false_iff_ne]; omega
  have m3 : ¬ k = 3 := by omega
  have k4 : (k == 4) = false := by rw [beq_eq_false_iff_ne]; omega
  have m4 : ¬ k = 4 := by omega
  have k5 : (k == 5) = false := by rw [beq_eq_false_iff_ne]; omega
  have m5 : ¬ k = 5 := by omega
  have k6 : (k == 6) = false := by rw [beq_eq_false_iff_ne]; omega
  have m6 : ¬ k = 6 := by omega
  have k7 : (k == 7) = false := by rw [beq_eq_false_iff_ne]; omega
  have m7 : ¬ k = 7 := by omega
  have k8 : (k == 8) = false := by rw [beq_eq_false_iff_ne]; omega
  have m8 : ¬ k = 8 := by omega
  have k9 : (k == 9) = false := by rw [beq_eq_false_iff_ne]; omega
  have m9 : ¬ k = 9 := by omega
  have k10 : (k == 10) = false := by rw [beq_eq_false_iff_ne]; omega
  have m10 : ¬ k = 10 := by omega
  have k11 : (k == 11) = false := by rw [beq_eq_false_iff_ne]; omega
  have m11 : ¬ k = 11 := by omega
  have k12 : (k == 12) = false := by rw [beq_eq_false_iff_ne]; omega
  have m12 : ¬ k = 12 := by omega
  have k13 : (k == 13) = false := by rw [beq_eq_false_iff_ne]; omega
  have m13 : ¬ k = 13 := by omega
  have k14 : (k == 14) = false := by rw [beq_eq_false_iff_ne]; omega
  have m14 : ¬ k = 14 := by omega
  have k15 : (k == 15) = false := by rw [beq_eq_false_iff_ne]; omega
  have m15 : ¬ k = 15 := by omega
  clear hk
  obtain ⟨p, c, rfl, _⟩ := hv
  clear hs
  go_enter Tryz.func10, Tryz.ntmps10
  go_wp2_with fail
  refine HN.out.mono ?_
  rintro e w1 ⟨rfl, b1⟩
  go_wp2_with fail
  go_ret
  exact ⟨rfl, b1⟩
theorem clValue_any {k : Int} (v : Value) (ax : List (ByteArray × ByteArray)) (w : World) (hv : AttrsV w v ax) (hz : AxOK ax) {s : ByteArray} {t : List UInt8} (h : CleanIs k ax s.data.toList t) (hs : s.size ≤ 100000) (hT : ClTabs w) :
    Calls Tryz.prog 10 #[.int .i64 k, v, .string s] w fun e w' => e = .returned (.string (txt t)) ∧ Below w.heap.size w w' := by
  rcases h with ⟨h, rfl⟩ | ⟨rfl, rfl⟩ | ⟨rfl, q, rfl⟩ | ⟨rfl, q, rfl⟩ | ⟨h, q, rfl⟩ | ⟨h, q, rfl⟩ | ⟨rfl, q, rfl⟩ | ⟨rfl, n, q, ht⟩ | ⟨rfl, rfl⟩ | ⟨rfl, rfl⟩ | ⟨h, rfl⟩
  · rcases h with rfl | rfl | rfl | rfl
    · exact clV_2 v ax w hv hz s hs hT
    · exact clV_3 v ax w hv hz s hs hT
    · exact clV_4 v ax w hv hz s hs hT
    · exact clV_7 v ax w hv hz s hs hT
  · exact clV_5 v ax w hv hz s hs hT
  · exact clV_6y v ax w hv hz s q hs hT
  · exact clV_6n v ax w hv hz s q hs hT
  · rcases h with rfl | rfl | rfl | rfl | rfl
    · exact clV_8y v ax w hv hz s q hs hT
    · exact clV_9y v ax w hv hz s q hs hT
    · exact clV_10y v ax w hv hz s q hs hT
    · exact clV_11y v ax w hv hz s q hs hT
    · exact clV_13y v ax w hv hz s q hs hT
  · rcases h with rfl | rfl | rfl | rfl | rfl
    · exact clV_8n v ax w hv hz s q hs hT
    · exact clV_9n v ax w hv hz s q hs hT
    · exact clV_10n v ax w hv hz s q hs hT
    · exact clV_11n v ax w hv hz s q hs hT
    · exact clV_13n v ax w hv hz s q hs hT
  · exact clV_12n v ax w hv hz s q hs hT
  · exact clV_12y v ax w hv hz s n t q ht hs hT
  · exact clV_14 v ax w hv hz s hs hT
  · exact clV_15 v ax w hv hz s hs hT
  · exact clV_else v ax w hv hz s k h hs hT

end Go.Proofs.YtpkpkpiphgjbaaaGreatDoor
