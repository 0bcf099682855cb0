/- A strings.Builder that a call has made itself, and the bytes that it holds. What Grow does to a fresh strings.Builder that the call has made itself. What WriteByte does to a strings.Builder that the call has made itself. What WriteString does to a strings.Builder that the call has made itself. What String answers of a strings.Builder that the call has made itself. The program's NoBreaks answers by the function of 'Ends'. The program's Pairs answers by the function of 'Ends'. The program's Plain of layer 19. The program's Encode and the document's answer by the same function of lists of bytes. The program's Form and Unform answer by functions of lists of bytes. A strings.Builder that a call has made itself, written and read, and what the call has laid besides stays. A row of entries of the call's own outlives other writes. -/
import Derived.Test.YtmnpnpmopbkabaaDoorJpl13
import Derived.Test.YtmnpnpmopbkabaaDoorJpl14
import Derived.Test.YtmnpnpmopbkabaaDoorJpl15
import Derived.Lib.Builder
import Derived.Lib.UnsafeStr
import Derived.Shelf.Strings.Builder2
import Derived.Shelf.Strings.Builder1
import Derived.Shelf.Strings.BuilderK

namespace Go.Proofs.YtmnpnpmopbkabaaDoor
open Go.RowKit
/-- A builder in block b, of the call's own (from B on), that holds the bytes l. -/
def HoldsB (B b : Nat) (l : List UInt8) (w : World) : Prop := Lib.IsBuilder 43 5 B b (Lib.byteCells l) w
theorem HoldsB.fresh (w : World) : HoldsB w.heap.size w.heap.size [] (w.alloc (.cells #[.pointer none, .slice none 0 0] 43)) :=
  .inl ⟨Nat.le_refl _, .slice none 0 0, by simp [World.alloc, -World.alloc_eq], World.ownsRow_nil _ _ _ _, by simp [Value.ownBlock]⟩
theorem builderAt_below {T e : TypeId} {B b : Nat} {p : Value} {bs : List Value} {w w' : World} (h : Lib.BuilderAt T e B b p bs w) (hb : Below w.heap.size w w') : Lib.BuilderAt T e B b p bs w' := by
  have hlt := h.lt
  obtain ⟨h0, v, h1, h2, h3⟩ := h
  refine ⟨h0, v, by rw [hb.block b hlt]; exact h1, ?_, h3⟩
  obtain ⟨g1, g2⟩ := h2
  refine ⟨g1, ?_⟩
  rcases g2 with g2 | ⟨g, cap, cur, hv, hg, hh, r⟩
  · exact Or.inl g2
  · refine Or.inr ⟨g, cap, cur, hv, hg, ?_, r⟩
    rw [hb.block g ?_]; exact hh
    rcases Nat.lt_or_ge g w.heap.size with h' | h'
    · exact h'
    · simp [Array.getElem?_eq_none h'] at hh
/-- Another call, which changes nothing that was there, leaves the builder as it is. -/
theorem HoldsB.below {B b : Nat} {l : List UInt8} {w w' : World} (h : HoldsB B b l w) (hb : Below w.heap.size w w') : HoldsB B b l w' := by
  rcases h with h | h
  · exact .inl (builderAt_below h hb)
  · exact .inr (builderAt_below h hb)
end Go.Proofs.YtmnpnpmopbkabaaDoor

namespace Go.Proofs.YtmnpnpmopbkabaaDoor
open Go.Shelf Go.RowKit
set_option maxRecDepth 100000
def renBGrow : Go.Shelf.Ren := ⟨fun | 165 => 47 | 240 => 28 | 241 => 58 | 276 => 45 | 277 => 65 | n => n, fun | 0 => 0 | 3 => 3 | 4 => 4 | 5 => 5 | 9 => 9 | 20 => 20 | 37 => 41 | 70 => 40 | 72 => 43 | 164 => 63 | n => n, fun  | n => n⟩
theorem lays165 : Go.Proofs.Lays.n165 Tryd.prog renBGrow := {
  mixed := by kernel_rfl
  f165 := Tryd.func47.trans (congrArg some (by kernel_rfl))
  f240 := Tryd.func28.trans (congrArg some (by kernel_rfl))
  f241 := Tryd.func58.trans (congrArg some (by kernel_rfl))
  f276 := Tryd.func45.trans (congrArg some (by kernel_rfl))
  f277 := Tryd.func65.trans (congrArg some (by kernel_rfl))
  t0 := Tryd.underlying0
  a0 := Tryd.isAgg0
  z0 := Tryd.sizeOf0
  v0 := Tryd.zeroValue0
  t3 := Tryd.underlying3
  a3 := Tryd.isAgg3
  z3 := Tryd.sizeOf3
  v3 := Tryd.zeroValue3
  t4 := Tryd.underlying4
  a4 := Tryd.isAgg4
  z4 := Tryd.sizeOf4
  v4 := Tryd.zeroValue4
  t9 := Tryd.underlying9
  a9 := Tryd.isAgg9
  z9 := Tryd.sizeOf9
  v9 := Tryd.zeroValue9
  t20 := Tryd.underlying20
  a20 := Tryd.isAgg20
  z20 := Tryd.sizeOf20
  v20 := Tryd.zeroValue20
  t37 := Tryd.underlying41
  a37 := Tryd.isAgg41
  z37 := Tryd.sizeOf41
  v37 := Tryd.zeroValue41
  t70 := Tryd.underlying40
  a70 := Tryd.isAgg40
  z70 := Tryd.sizeOf40
  v70 := Tryd.zeroValue40
  t72 := Tryd.underlying43
  a72 := Tryd.isAgg43
  z72 := Tryd.sizeOf43
  v72 := Tryd.zeroValue43
  t164 := Tryd.underlying63
  a164 := Tryd.isAgg63
  z164 := Tryd.sizeOf63
  v164 := Tryd.zeroValue63 }
theorem extraBGrow : Builder.Extra Tryd.prog renBGrow := {
  sizeBuilder := by kernel_rfl
  liesBuilder := by kernel_rfl
  t5 := Tryd.underlying5
  a5 := Tryd.isAgg5
  z5 := Tryd.sizeOf5
  v5 := Tryd.zeroValue5
  infoByte := by kernel_rfl
  cellsByte := by kernel_rfl
  sizeByte := by kernel_rfl
  neB5 := by decide }
theorem grow_fresh (n : Nat) (w : World) (hn : n ≤ 281474976710656) :
    Calls Tryd.prog 47 #[.pointer (some ⟨w.heap.size, 0, none⟩), .int .i64 n] (w.alloc (.cells #[.pointer none, .slice none 0 0] 43)) fun e w' => e = .returned (.tuple #[]) ∧ HoldsB w.heap.size w.heap.size [] w' ∧ Below w.heap.size w w' := by
  refine (Any.Builder_Grow_fresh lays165 extraBGrow w.heap.size w.heap.size n (w.alloc (.cells #[.pointer none, .slice none 0 0] 43)) (Nat.le_refl _) (by simp [World.alloc, -World.alloc_eq]; rfl) (by simp) hn).mono ?_
  rintro e w' ⟨rfl, h, hb⟩
  exact ⟨rfl, .inr h, ((Below.refl _ w).alloc (Nat.le_refl _) _).trans hb⟩
end Go.Proofs.YtmnpnpmopbkabaaDoor

namespace Go.Proofs.YtmnpnpmopbkabaaDoor
open Go.Shelf Go.RowKit
set_option maxRecDepth 100000
def renBByte : Go.Shelf.Ren := ⟨fun | 167 => 17 | 240 => 28 | 276 => 45 | n => n, fun | 0 => 0 | 4 => 4 | 5 => 5 | 9 => 9 | 20 => 20 | 37 => 41 | 70 => 40 | 72 => 43 | 75 => 46 | 80 => 50 | 164 => 63 | n => n, fun  | n => n⟩
theorem lays167 : Go.Proofs.Lays.n167 Tryd.prog renBByte := {
  mixed := by kernel_rfl
  f167 := Tryd.func17.trans (congrArg some (by kernel_rfl))
  f240 := Tryd.func28.trans (congrArg some (by kernel_rfl))
  f276 := Tryd.func45.trans (congrArg some (by kernel_rfl))
  t0 := Tryd.underlying0
  a0 := Tryd.isAgg0
  z0 := Tryd.sizeOf0
  v0 := Tryd.zeroValue0
  t4 := Tryd.underlying4
  a4 := Tryd.isAgg4
  z4 := Tryd.sizeOf4
  v4 := Tryd.zeroValue4
  t5 := Tryd.underlying5
  a5 := Tryd.isAgg5
  z5 := Tryd.sizeOf5
  v5 := Tryd.zeroValue5
  t9 := Tryd.underlying9
  a9 := Tryd.isAgg9
  z9 := Tryd.sizeOf9
  v9 := Tryd.zeroValue9
  t20 := Tryd.underlying20
  a20 := Tryd.isAgg20
  z20 := Tryd.sizeOf20
  v20 := Tryd.zeroValue20
  t37 := Tryd.underlying41
  a37 := Tryd.isAgg41
  z37 := Tryd.sizeOf41
  v37 := Tryd.zeroValue41
  t70 := Tryd.underlying40
  a70 := Tryd.isAgg40
  z70 := Tryd.sizeOf40
  v70 := Tryd.zeroValue40
  t72 := Tryd.underlying43
  a72 := Tryd.isAgg43
  z72 := Tryd.sizeOf43
  v72 := Tryd.zeroValue43
  t75 := Tryd.underlying46
  a75 := Tryd.isAgg46
  z75 := Tryd.sizeOf46
  v75 := Tryd.zeroValue46
  t164 := Tryd.underlying63
  a164 := Tryd.isAgg63
  z164 := Tryd.sizeOf63
  v164 := Tryd.zeroValue63 }
theorem extraBByte : Builder.Extra Tryd.prog renBByte := {
  sizeBuilder := by kernel_rfl
  liesBuilder := by kernel_rfl
  t5 := Tryd.underlying5
  a5 := Tryd.isAgg5
  z5 := Tryd.sizeOf5
  v5 := Tryd.zeroValue5
  infoByte := by kernel_rfl
  cellsByte := by kernel_rfl
  sizeByte := by kernel_rfl
  neB5 := by decide }
theorem writeByte (B b : Nat) (l : List UInt8) (c : UInt8) (w : World) (h : HoldsB B b l w) (hlen : l.length + 1 ≤ 140737488355328) (hBw : B ≤ w.heap.size) :
    Calls Tryd.prog 17 #[.pointer (some ⟨b, 0, none⟩), .int .u8 (c.toNat : Int)] w fun e w' => e = .returned .nilIface ∧ HoldsB B b (l ++ [c]) w' ∧ Below B w w' := by
  refine (Any.Builder_WriteByte lays167 extraBByte B b (Lib.byteCells l) (c.toNat : Int) w h (by simpa [Lib.byteCells] using hlen) hBw).mono ?_
  rintro e w' ⟨rfl, h, hb⟩
  refine ⟨rfl, .inr ?_, hb⟩
  have e1 : Lib.byteCells (l ++ [c]) = Lib.byteCells l ++ [.int .u8 (c.toNat : Int)] := by simp [Lib.byteCells]
  rw [e1]; exact h
end Go.Proofs.YtmnpnpmopbkabaaDoor

namespace Go.Proofs.YtmnpnpmopbkabaaDoor
open Go.Shelf Go.RowKit
set_option maxRecDepth 100000
def renBText : Go.Shelf.Ren := ⟨fun | 166 => 16 | 240 => 28 | 276 => 45 | n => n, fun | 0 => 0 | 3 => 3 | 4 => 4 | 5 => 5 | 9 => 9 | 20 => 20 | 37 => 41 | 70 => 40 | 72 => 43 | 75 => 46 | 80 => 50 | 164 => 63 | n => n, fun  | n => n⟩
theorem lays166 : Go.Proofs.Lays.n166 Tryd.prog renBText := {
  mixed := by kernel_rfl
  f166 := Tryd.func16.trans (congrArg some (by kernel_rfl))
  f240 := Tryd.func28.trans (congrArg some (by kernel_rfl))
  f276 := Tryd.func45.trans (congrArg some (by kernel_rfl))
  t0 := Tryd.underlying0
  a0 := Tryd.isAgg0
  z0 := Tryd.sizeOf0
  v0 := Tryd.zeroValue0
  t3 := Tryd.underlying3
  a3 := Tryd.isAgg3
  z3 := Tryd.sizeOf3
  v3 := Tryd.zeroValue3
  t4 := Tryd.underlying4
  a4 := Tryd.isAgg4
  z4 := Tryd.sizeOf4
  v4 := Tryd.zeroValue4
  t9 := Tryd.underlying9
  a9 := Tryd.isAgg9
  z9 := Tryd.sizeOf9
  v9 := Tryd.zeroValue9
  t20 := Tryd.underlying20
  a20 := Tryd.isAgg20
  z20 := Tryd.sizeOf20
  v20 := Tryd.zeroValue20
  t37 := Tryd.underlying41
  a37 := Tryd.isAgg41
  z37 := Tryd.sizeOf41
  v37 := Tryd.zeroValue41
  t70 := Tryd.underlying40
  a70 := Tryd.isAgg40
  z70 := Tryd.sizeOf40
  v70 := Tryd.zeroValue40
  t72 := Tryd.underlying43
  a72 := Tryd.isAgg43
  z72 := Tryd.sizeOf43
  v72 := Tryd.zeroValue43
  t75 := Tryd.underlying46
  a75 := Tryd.isAgg46
  z75 := Tryd.sizeOf46
  v75 := Tryd.zeroValue46
  t164 := Tryd.underlying63
  a164 := Tryd.isAgg63
  z164 := Tryd.sizeOf63
  v164 := Tryd.zeroValue63 }
theorem extraBText : Builder.Extra Tryd.prog renBText := {
  sizeBuilder := by kernel_rfl
  liesBuilder := by kernel_rfl
  t5 := Tryd.underlying5
  a5 := Tryd.isAgg5
  z5 := Tryd.sizeOf5
  v5 := Tryd.zeroValue5
  infoByte := by kernel_rfl
  cellsByte := by kernel_rfl
  sizeByte := by kernel_rfl
  neB5 := by decide }
theorem writeString (B b : Nat) (l : List UInt8) (s : ByteArray) (w : World) (h : HoldsB B b l w) (hlen : l.length + s.size ≤ 140737488351232) (hBw : B ≤ w.heap.size) :
    Calls Tryd.prog 16 #[.pointer (some ⟨b, 0, none⟩), .string s] w fun e w' => e = .returned (.tuple #[.int .i64 s.size, .nilIface]) ∧ HoldsB B b (l ++ s.data.toList) w' ∧ Below B w w' := by
  refine (Any.Builder_WriteString lays166 extraBText B b (Lib.byteCells l) s w h (by simp [Lib.byteCells]; omega) hBw).mono ?_
  rintro e w' ⟨rfl, h, hb⟩
  refine ⟨rfl, .inr ?_, hb⟩
  have e1 : Lib.byteCells (l ++ s.data.toList) = Lib.byteCells l ++ Lib.strCells s := by simp [Lib.byteCells, Lib.strCells]
  rw [e1]; exact h
end Go.Proofs.YtmnpnpmopbkabaaDoor

namespace Go.Proofs.YtmnpnpmopbkabaaDoor
open Go.Shelf Go.RowKit
set_option maxRecDepth 100000
def renBString : Go.Shelf.Ren := ⟨fun | 169 => 18 | n => n, fun | 0 => 0 | 3 => 3 | 5 => 5 | 9 => 9 | 37 => 41 | 70 => 40 | 72 => 43 | 127 => 53 | n => n, fun  | n => n⟩
theorem lays169 : Go.Proofs.Lays.n169 Tryd.prog renBString := {
  mixed := by kernel_rfl
  f169 := Tryd.func18.trans (congrArg some (by kernel_rfl))
  t0 := Tryd.underlying0
  a0 := Tryd.isAgg0
  z0 := Tryd.sizeOf0
  v0 := Tryd.zeroValue0
  t3 := Tryd.underlying3
  a3 := Tryd.isAgg3
  z3 := Tryd.sizeOf3
  v3 := Tryd.zeroValue3
  t9 := Tryd.underlying9
  a9 := Tryd.isAgg9
  z9 := Tryd.sizeOf9
  v9 := Tryd.zeroValue9
  t37 := Tryd.underlying41
  a37 := Tryd.isAgg41
  z37 := Tryd.sizeOf41
  v37 := Tryd.zeroValue41
  t70 := Tryd.underlying40
  a70 := Tryd.isAgg40
  z70 := Tryd.sizeOf40
  v70 := Tryd.zeroValue40
  t72 := Tryd.underlying43
  a72 := Tryd.isAgg43
  z72 := Tryd.sizeOf43
  v72 := Tryd.zeroValue43
  t127 := Tryd.underlying53
  a127 := Tryd.isAgg53
  z127 := Tryd.sizeOf53
  v127 := Tryd.zeroValue53 }
theorem extraBString : Builder.Extra Tryd.prog renBString := {
  sizeBuilder := by kernel_rfl
  liesBuilder := by kernel_rfl
  t5 := Tryd.underlying5
  a5 := Tryd.isAgg5
  z5 := Tryd.sizeOf5
  v5 := Tryd.zeroValue5
  infoByte := by kernel_rfl
  cellsByte := by kernel_rfl
  sizeByte := by kernel_rfl
  neB5 := by decide }
theorem builderText (B b : Nat) (l : List UInt8) (w : World) (h : HoldsB B b l w) (hBw : B ≤ w.heap.size) :
    Calls Tryd.prog 18 #[.pointer (some ⟨b, 0, none⟩)] w fun e w' => e = .returned (.string (txt l)) ∧ Below B w w' :=
  Any.Builder_String_any lays169 extraBString B b l w h hBw
end Go.Proofs.YtmnpnpmopbkabaaDoor

namespace Go.Proofs.YtmnpnpmopbkabaaDoor
open Go.RowKit
set_option maxRecDepth 100000
set_option maxHeartbeats 400000 in
theorem withEnds_any (s e : ByteArray) (w : World) (hs : s.size ≤ 1099511627776) (he : e.size ≤ 2) :
    Calls Tryd.prog 44 #[.string s, .string e] w fun r w' => r = .returned (.string (endsS e s)) ∧ Below w.heap.size w w' := by
  go_enter Tryd.func44, Tryd.ntmps44
  go_wp2_with fail
  refine (grow_fresh s.size w (by omega)).mono ?_
  rintro r w1 ⟨rfl, h1, b1⟩
  go_wp2_with fail
  go_loopw [13] (fun i wr => ∃ k : Nat, k ≤ s.size ∧ i = .int .i64 k ∧ HoldsB w.heap.size w.heap.size (endsP e.data.toList 0 (s.data.toList.take k)) wr ∧ Below w.heap.size w wr) (fun i _ => s.size - (intOf i).toNat)
  case atStart => exact ⟨0, Nat.zero_le _, rfl, h1, b1⟩
  case round =>
    obtain ⟨k, hk, rfl, hh, hb⟩ := hrel
    by_cases hlt : k < s.size
    · have hle := endsP_take_le e s k he
      have HT := hide (endsP_take e.data.toList s k hlt)
      have hsz := hb.size
      have HE := hide (byteAt_eq s k hlt)
      go_wp2_with fail
      · have h10 : (s[k].toNat : Int) = 10 := by assumption
        have h0 : 0 < k := by assumption
        have h13 : ((((s[k - 1]'(by omega)).toNat : Int)) == 13) = true := by assumption
        rw [HE.out] at h10
        rw [prevAt_eq s k hlt h0, beq_iff_eq] at h13
        go_roundw
        case rel => exact ⟨k + 1, by omega, by go_num, by rw [HT.out, piece_none ((b10 _).2 h10) ((b13 _).2 h13), List.append_nil]; exact hh, hb⟩
        case measure => simp [intOf]; omega
      · have h10 : (s[k].toNat : Int) = 10 := by assumption
        have h0 : 0 < k := by assumption
        have h13 : ((((s[k - 1]'(by omega)).toNat : Int)) == 13) = false := by assumption
        rw [HE.out] at h10
        rw [prevAt_eq s k hlt h0, beq_eq_false_iff_ne] at h13
        have HP := hide (piece_end (e := e.data.toList) (p := prevAt s k) (c := byteAt s k) (fun h => h13 ((b13 _).1 h.2)) (.inl ((b10 _).2 h10)))
        refine (writeString _ _ _ e wr hh (by omega) hb.size).mono ?_
        rintro r w2 ⟨rfl, h2, b2⟩
        go_wp2_with fail
        go_roundw
        case rel => exact ⟨k + 1, by omega, by go_num, by rw [HT.out, HP.out]; exact h2, hb.trans b2⟩
        case measure => simp [intOf]; omega
      · have h10 : (s[k].toNat : Int) = 10 := by assumption
        have h0 : ¬ 0 < k := by assumption
        rw [HE.out] at h10
        have HP := hide (piece_end (e := e.data.toList) (p := prevAt s k) (c := byteAt s k) (fun h => by have := h.2; unfold prevAt at this; rw [if_pos (by omega)] at this; exact absurd this (by decide)) (.inl ((b10 _).2 h10)))
        refine (writeString _ _ _ e wr hh (by omega) hb.size).mono ?_
        rintro r w2 ⟨rfl, h2, b2⟩
        go_wp2_with fail
        go_roundw
        case rel => exact ⟨k + 1, by omega, by go_num, by rw [HT.out, HP.out]; exact h2, hb.trans b2⟩
        case measure => simp [intOf]; omega
      · have h10 : ¬ (s[k].toNat : Int) = 10 := by assumption
        have h13 : ((s[k].toNat : Int) == 10) = true ∨ ((s[k].toNat : Int) == 13) = true := by assumption
        rw [HE.out] at h10 h13
        rw [beq_iff_eq, beq_iff_eq] at h13
        have HP := hide (piece_end (e := e.data.toList) (p := prevAt s k) (c := byteAt s k) (fun h => h10 ((b10 _).1 h.1)) (.inr ((b13 _).2 (by omega))))
        refine (writeString _ _ _ e wr hh (by omega) hb.size).mono ?_
        rintro r w2 ⟨rfl, h2, b2⟩
        go_wp2_with fail
        go_roundw
        case rel => exact ⟨k + 1, by omega, by go_num, by rw [HT.out, HP.out]; exact h2, hb.trans b2⟩
        case measure => simp [intOf]; omega
      · have h10 : ¬ (s[k].toNat : Int) = 10 := by assumption
        have h13 : ((s[k].toNat : Int) == 10) = false ∧ ((s[k].toNat : Int) == 13) = false := by assumption
        rw [HE.out] at h10 h13
        rw [beq_eq_false_iff_ne, beq_eq_false_iff_ne] at h13
        have HP := hide (piece_byte (e := e.data.toList) (p := prevAt s k) (c := byteAt s k) (fun h => h10 ((b10 _).1 h)) (fun h => h13.2 ((b13 _).1 h)))
        rw [HE.out]
        refine (writeByte _ _ _ (byteAt s k) wr hh (by omega) hb.size).mono ?_
        rintro r w2 ⟨rfl, h2, b2⟩
        go_wp2_with fail
        go_roundw
        case rel => exact ⟨k + 1, by omega, by go_num, by rw [HT.out, HP.out]; exact h2, hb.trans b2⟩
        case measure => simp [intOf]; omega
    · have e : k = s.size := by omega
      subst e
      rw [take_all] at hh
      go_wp2_with fail
      refine (builderText _ _ _ _ hh hb.size).mono ?_
      rintro r w2 ⟨rfl, b2⟩
      go_wp2_with fail
      go_ret
      exact ⟨rfl, hb.trans b2⟩
end Go.Proofs.YtmnpnpmopbkabaaDoor

namespace Go.Proofs.YtmnpnpmopbkabaaDoor
open Go.RowKit
set_option maxRecDepth 100000
set_option maxHeartbeats 400000 in
theorem pairs_any (s : ByteArray) (w : World) (hs : s.size ≤ 1099511627776) :
    Calls Tryd.prog 27 #[.string s] w fun r w' => r = .returned (.string (pairsS s)) ∧ Below w.heap.size w w' := by
  go_enter Tryd.func27, Tryd.ntmps27
  go_wp2_with fail
  refine (withEnds_any s ⟨#[13, 10]⟩ _ hs (by decide)).mono ?_
  rintro r w1 ⟨rfl, b1⟩
  go_wp2_with fail
  go_ret
  exact ⟨rfl, b1⟩
end Go.Proofs.YtmnpnpmopbkabaaDoor

namespace Go.Proofs.YtmnpnpmopbkabaaDoor
open Go.RowKit
set_option maxRecDepth 100000
set_option maxHeartbeats 4000000 in
theorem urPlainO_any (n : Nat) (v : Value) (l : List En) (w : World) (hv : FilesV w v l) (hn : n ≤ 10000000) (hl : EnsOK n l) :
    Calls Tryd.prog 15 #[v] w fun e w' => ∃ v', e = .returned v' ∧ OwnR w.heap.size w' v' (plainU l) ∧ Below w.heap.size w w' := by
  obtain ⟨p, c, rfl, hv⟩ := hv
  have HV := hide hv
  have h60 := hl.len
  have HL := hide hl
  clear hv hl
  go_enter Tryd.func15, Tryd.ntmps15
  go_wp2_with fail
  go_loopw [3, 9] (fun ov iv wr => ∃ (k : Nat) (q : Option Addr) (cp : Nat), k ≤ l.length ∧ iv = .int .i64 k ∧ ov = .slice q k cp ∧ Hid (OwnR w.heap.size wr (.slice q k cp) (plainU (l.take k))) ∧ Hid (Below w.heap.size w wr)) (fun _ iv _ => l.length - (intOf iv).toNat)
  case atStart => exact ⟨0, none, 0, Nat.zero_le _, rfl, rfl, OwnR.nil _ _, Below.refl _ _⟩
  case round =>
    rename World => wr
    obtain ⟨k, q, cp, hk, rfl, rfl, OW, BW⟩ := hrel
    by_cases g : k < l.length
    · have k1 : (k : Int) < (l.length : Int) := by omega
      have k0 : (0 : Int) ≤ (k : Int) := by omega
      obtain ⟨b, o, rfl, hc⟩ : ∃ b o, p = some ⟨b, o, none⟩ ∧ ∀ i (h : i < l.length), EnAt w b (o + i * 5) l[i] := by
        rcases HV.out with t | t
        · rw [t] at g; simp at g
        · exact t
      have EA := (hc k g).below BW.out
      have a0 := EA.c0
      have a1 := EA.c1
      have a2 := EA.c2
      have a3 := EA.c3
      have a4 := EA.c4
      have sz := HL.out.ent _ (List.getElem_mem g)
      have TK := hide (plain_take l g)
      have PL := hide (plain_len l k hk)
      have s0 := sz.1
      have s1 := sz.2.1
      have s2 := sz.2.2.1
      have EP : Hid (plE l[k] = ⟨pairsS l[k].name, pairsS (if l[k].file = true then l[k].fname else l[k].val), false, ⟨#[]⟩, ⟨#[]⟩⟩) := rfl
      have H0 := hide (fun W => pairs_any l[k].name W (by omega))
      have H1 := hide (fun W => pairs_any l[k].val W (by omega))
      have H2 := hide (fun W => pairs_any l[k].fname W (by omega))
      clear hc EA HV HL sz s0 s1 s2
      generalize plE l[k] = pe at *
      generalize l[k].name = t0 at *
      generalize l[k].val = t1 at *
      generalize l[k].fname = t2 at *
      generalize l[k].typ = t3 at *
      generalize l[k].file = fb at *
      cases fb with
      | true =>
        rw [if_pos (by decide)] at EP
        clear H1
        have AL0 : Hid (Below wr.heap.size wr (wr.alloc (.cells #[.string t0, .string t1, .bool true, .string t2, .string t3] 34))) := (Below.refl _ wr).alloc (Nat.le_refl _) _
        have BW0 := hide (chain BW.out AL0.out)
        have OW0 := hide (OW.out.below AL0.out)
        clear AL0 BW OW
        go_wp2_with fail
        refine (H0.out _).mono ?_
        rintro e w1 ⟨rfl, b1⟩
        have B1 := hide (chain BW0.out b1)
        have O1 := hide (OW0.out.below b1)
        clear b1 a0 a1 a2 a3 a4 BW0 OW0
        go_wp2_with fail
        refine (H2.out _).mono ?_
        rintro e w2 ⟨rfl, b2⟩
        have B2 := hide (chain B1.out b2)
        have O2 := hide (O1.out.below b2)
        clear b2 B1 O1 H0 H2
        generalize pairsS t0 = u0 at *
        generalize pairsS t2 = u1 at *
        have F1 := hide (files_one w2 ⟨u0, u1, false, ⟨#[]⟩, ⟨#[]⟩⟩)
        have AL : Hid (Below w2.heap.size w2 (w2.alloc (.cells #[.string u0, .string u1, .bool false, .string ⟨#[]⟩, .string ⟨#[]⟩] 34))) := (Below.refl _ w2).alloc (Nat.le_refl _) _
        have B3 := hide (chain B2.out AL.out)
        have O3 := hide (O2.out.below AL.out)
        have SZ := hide (Nat.le_trans B2.out.size AL.out.size)
        clear AL B2 O2
        go_wp2_with (at_builtin; refine wpList_append_en rfl _ _ rfl w.heap.size _ (plainU (l.take k)) rfl O3.out _ [⟨u0, u1, false, ⟨#[]⟩, ⟨#[]⟩⟩] rfl F1.out (by rw [PL.out]; show (k + 1) * 72 ≤ _; omega) SZ.out ?_; intro q8 c8 w8 o8 b8)
        have O8 : Hid (OwnR w.heap.size w8 (.slice q8 (k + 1) c8) (plainU (l.take (k + 1)))) := by
          show OwnR _ _ _ _
          rw [TK.out, EP.out]
          have := o8
          rw [PL.out] at this
          exact this
        have B8 := hide (B3.out.trans b8)
        clear o8 b8 F1 O3 B3 SZ TK EP
        rw [PL.out]
        clear PL
        go_roundw
        case rel => exact ⟨k + 1, q8, c8, by omega, by go_num, rfl, O8, B8⟩
        case measure => simp [intOf]; omega
      | false =>
        rw [if_neg (by decide)] at EP
        clear H2
        have AL0 : Hid (Below wr.heap.size wr (wr.alloc (.cells #[.string t0, .string t1, .bool false, .string t2, .string t3] 34))) := (Below.refl _ wr).alloc (Nat.le_refl _) _
        have BW0 := hide (chain BW.out AL0.out)
        have OW0 := hide (OW.out.below AL0.out)
        clear AL0 BW OW
        go_wp2_with fail
        refine (H0.out _).mono ?_
        rintro e w1 ⟨rfl, b1⟩
        have B1 := hide (chain BW0.out b1)
        have O1 := hide (OW0.out.below b1)
        clear b1 a0 a1 a2 a3 a4 BW0 OW0
        go_wp2_with fail
        refine (H1.out _).mono ?_
        rintro e w2 ⟨rfl, b2⟩
        have B2 := hide (chain B1.out b2)
        have O2 := hide (O1.out.below b2)
        clear b2 B1 O1 H0 H1
        generalize pairsS t0 = u0 at *
        generalize pairsS t1 = u1 at *
        have F1 := hide (files_one w2 ⟨u0, u1, false, ⟨#[]⟩, ⟨#[]⟩⟩)
        have AL : Hid (Below w2.heap.size w2 (w2.alloc (.cells #[.string u0, .string u1, .bool false, .string ⟨#[]⟩, .string ⟨#[]⟩] 34))) := (Below.refl _ w2).alloc (Nat.le_refl _) _
        have B3 := hide (chain B2.out AL.out)
        have O3 := hide (O2.out.below AL.out)
        have SZ := hide (Nat.le_trans B2.out.size AL.out.size)
        clear AL B2 O2
        go_wp2_with (at_builtin; refine wpList_append_en rfl _ _ rfl w.heap.size _ (plainU (l.take k)) rfl O3.out _ [⟨u0, u1, false, ⟨#[]⟩, ⟨#[]⟩⟩] rfl F1.out (by rw [PL.out]; show (k + 1) * 72 ≤ _; omega) SZ.out ?_; intro q8 c8 w8 o8 b8)
        have O8 : Hid (OwnR w.heap.size w8 (.slice q8 (k + 1) c8) (plainU (l.take (k + 1)))) := by
          show OwnR _ _ _ _
          rw [TK.out, EP.out]
          have := o8
          rw [PL.out] at this
          exact this
        have B8 := hide (B3.out.trans b8)
        clear o8 b8 F1 O3 B3 SZ TK EP
        rw [PL.out]
        clear PL
        go_roundw
        case rel => exact ⟨k + 1, q8, c8, by omega, by go_num, rfl, O8, B8⟩
        case measure => simp [intOf]; omega
    · obtain rfl : k = l.length := by omega
      rw [List.take_length] at OW
      clear HV HL
      go_wp2_with fail
      go_ret
      exact ⟨_, rfl, OW.out, BW.out⟩
end Go.Proofs.YtmnpnpmopbkabaaDoor

namespace Go.Proofs.YtmnpnpmopbkabaaDoor
open Go.RowKit
set_option maxHeartbeats 400000 in
theorem writeEscape_any (B b : Nat) (l : List UInt8) (c : UInt8) (w : World) (h : HoldsB B b l w) (hlen : l.length + 3 ≤ 140737488355328) (hBw : B ≤ w.heap.size) (hT : Digs w) (hB : 2 < B) :
    Calls Tryd.prog 49 #[.pointer (some ⟨b, 0, none⟩), .int .u8 (c.toNat : Int)] w fun e w' => e = .returned (.tuple #[]) ∧ HoldsB B b (l ++ [37, hexD (c.toNat / 16), hexD (c.toNat % 16)]) w' ∧ Below B w w' := by
  have hc := c.toNat_lt
  have HT := hide hT
  clear hT
  go_enter Tryd.func49, Tryd.ntmps49
  go_wp2_with fail
  refine (writeByte B b l 37 w h (by omega) hBw).mono ?_
  rintro e w1 ⟨rfl, h1, b1⟩
  have d1 := (HT.out.under b1 hB) (c.toNat / 16) (by omega)
  go_wp2_with fail
  refine (writeByte B b _ (hexD (c.toNat / 16)) w1 h1 (by simp; omega) (by have := b1.size; omega)).mono ?_
  rintro e w2 ⟨rfl, h2, b2⟩
  have d2 := (HT.out.under (b1.trans b2) hB) (c.toNat % 16) (by omega)
  clear d1
  go_wp2_with fail
  refine (writeByte B b _ (hexD (c.toNat % 16)) w2 h2 (by simp; omega) (by have := b1.size; have := b2.size; omega)).mono ?_
  rintro e w3 ⟨rfl, h3, b3⟩
  go_wp2_with fail
  go_end0
  refine ⟨rfl, ?_, (b1.trans b2).trans b3⟩
  have e1 : l ++ [37] ++ [hexD (c.toNat / 16)] ++ [hexD (c.toNat % 16)] = l ++ [37, hexD (c.toNat / 16), hexD (c.toNat % 16)] := by simp
  rw [← e1]; exact h3
theorem encL_take (set : Int) (s : ByteArray) (k : Nat) (h : k < s.size) : encL set (s.data.toList.take (k + 1)) = encL set (s.data.toList.take k) ++ encB set s[k] := by
  rw [byteAt_take s k h, encL_append, ← byteAt_eq s k h]
  show _ ++ (encB set s[k] ++ []) = _
  rw [List.append_nil]
theorem encL_take_len (set : Int) (s : ByteArray) (k : Nat) : (encL set (s.data.toList.take k)).length ≤ 3 * k := by
  have := encL_len set (s.data.toList.take k)
  have := List.length_take_le k s.data.toList
  omega
set_option maxHeartbeats 400000 in
theorem encode_any (s : ByteArray) (set : Int) (w : World) (hset : 0 ≤ set ∧ set ≤ 7) (hs : s.size ≤ 1099511627776) (hS : Signs w) (hD : Digs w) :
    Calls Tryd.prog 29 #[.string s, .int .i64 set] w fun r w' => r = .returned (.tuple #[.string (encS set s), .int .i64 0]) ∧ Below w.heap.size w w' := by
  have hB : 2 < w.heap.size := World.block_lt_of_cell? _ _ (hD 0 (by decide))
  have hI := fun w => isSet_any set w
  rw [decide_eq_true hset] at hI
  have HI := hide hI
  have HS := hide hS
  have HD := hide hD
  clear hI hS hD
  go_enter Tryd.func29, Tryd.ntmps29
  go_wp2_with fail
  refine (HI.out _).mono ?_
  rintro e w0 ⟨rfl, hw⟩
  obtain rfl : w = w0 := hw.symm
  clear hw
  go_wp2_with fail
  refine (grow_fresh s.size w (by omega)).mono ?_
  rintro r w1 ⟨rfl, h1, b1⟩
  go_wp2_with fail
  go_loopw [16] (fun i wr => ∃ k : Nat, k ≤ s.size ∧ i = .int .i64 k ∧ HoldsB w.heap.size w.heap.size (encL set (s.data.toList.take k)) wr ∧ Below w.heap.size w wr) (fun i _ => s.size - (intOf i).toNat)
  case atStart => exact ⟨0, Nat.zero_le _, rfl, h1, b1⟩
  case round =>
    obtain ⟨k, hk, rfl, hh, hb⟩ := hrel
    by_cases hlt : k < s.size
    · have hle := encL_take_len set s k
      have HT := hide (encL_take set s k hlt)
      have hsz := hb.size
      have hE := escapes_any set s[k] wr (HS.out.below hb)
      cases g : escB set s[k] with
      | true =>
        rw [g] at hE
        have HE := hide hE
        have HG := hide (encB_yes g)
        clear hE g
        go_wp2_with fail
        refine HE.out.mono ?_
        rintro e w0 ⟨rfl, hw⟩
        obtain rfl : wr = w0 := hw.symm
        clear hw
        go_wp2_with fail
        refine (writeEscape_any _ _ _ s[k] _ hh (by omega) hb.size (HD.out.below hb) hB).mono ?_
        rintro r w2 ⟨rfl, h2, b2⟩
        go_wp2_with fail
        go_roundw
        case rel => exact ⟨k + 1, by omega, by go_num, by rw [HT.out, HG.out]; exact h2, hb.trans b2⟩
        case measure => simp [intOf]; omega
      | false =>
        rw [g] at hE
        have HE := hide hE
        have HG := hide (encB_not g)
        clear hE g
        go_wp2_with fail
        refine HE.out.mono ?_
        rintro e w0 ⟨rfl, hw⟩
        obtain rfl : wr = w0 := hw.symm
        clear hw
        go_wp2_with fail
        refine (writeByte _ _ _ s[k] _ hh (by omega) hb.size).mono ?_
        rintro r w2 ⟨rfl, h2, b2⟩
        go_wp2_with fail
        go_roundw
        case rel => exact ⟨k + 1, by omega, by go_num, by rw [HT.out, HG.out]; exact h2, hb.trans b2⟩
        case measure => simp [intOf]; omega
    · have e : k = s.size := by omega
      subst e
      rw [take_all] at hh
      go_wp2_with fail
      refine (builderText _ _ _ _ hh hb.size).mono ?_
      rintro r w2 ⟨rfl, b2⟩
      go_wp2_with fail
      go_ret2
      exact ⟨rfl, hb.trans b2⟩
end Go.Proofs.YtmnpnpmopbkabaaDoor

namespace Go.Proofs.YtmnpnpmopbkabaaDoor
open Go.Shelf Go.RowKit
theorem replaceAll_any (s old new : ByteArray) (w : World) (hs : s.size ≤ 1073741824) (hm : SomeMax w) (h1 : 1 ≤ old.size) (h2 : new.size = 1) (hne : old.data.toList ≠ new.data.toList) :
    Calls Tryd.prog 30 #[.string s, .string old, .string new] w fun e w' => e = .returned (.string (txt (repA old.data.toList new.data.toList s.data.toList))) ∧ Below w.heap.size w w' := by
  obtain ⟨m, hm⟩ := hm
  have hc := Lib.countB_mul_le old h1 s.size s (Nat.le_refl _)
  have hc2 : Lib.countB s old * new.size ≤ s.size := by
    rw [h2]
    exact Nat.le_trans (Nat.mul_le_mul_left _ h1) hc
  have := Any.strings_ReplaceAll lays155 extraRp s old new m w (by omega) hm h1 (by omega)
  rw [repA_all hne] at this
  exact this
theorem encS_size (set : Int) (s : ByteArray) : (encS set s).size ≤ 3 * s.size := by
  have := encL_len set s.data.toList
  unfold encS; rw [txt_size]; simpa using this
theorem form_text (s : ByteArray) : txt (repA (⟨#[37, 50, 48]⟩ : ByteArray).data.toList (⟨#[43]⟩ : ByteArray).data.toList (encS 7 s).data.toList) = formS s := by
  unfold encS formS; rw [txt_data]; exact congrArg txt (rep_enc s.data.toList)
set_option maxHeartbeats 400000 in
theorem form_any (s : ByteArray) (w : World) (hs : s.size ≤ 268435456) (hS : Signs w) (hD : Digs w) (hM : SomeMax w) :
    Calls Tryd.prog 19 #[.string s] w fun r w' => r = .returned (.string (formS s)) ∧ Below w.heap.size w w' := by
  have hE := encode_any s 7 w (by decide) (by omega) hS hD
  have hz := encS_size 7 s
  have hR := fun w hM => replaceAll_any (encS 7 s) ⟨#[37, 50, 48]⟩ ⟨#[43]⟩ w (by omega) hM (by decide) (by decide) (by decide)
  rw [form_text] at hR
  have HE := hide hE
  have HR := hide hR
  have HM := hide hM
  clear hE hR hM hS hD
  go_enter Tryd.func19, Tryd.ntmps19
  go_wp2_with fail
  refine HE.out.mono ?_
  rintro e w1 ⟨rfl, b1⟩
  go_wp2_with fail
  refine (HR.out _ (HM.out.below b1)).mono ?_
  rintro e w2 ⟨rfl, b2⟩
  go_wp2_with fail
  go_ret
  exact ⟨rfl, chain b1 b2⟩
end Go.Proofs.YtmnpnpmopbkabaaDoor

namespace Go.Proofs.YtmnpnpmopbkabaaDoor
open Go.Shelf Go.RowKit
set_option maxRecDepth 100000
/-- A builder in block b, of the call's own (from B on), that holds the bytes l. -/
def HoldsK (B b : Nat) (l : List UInt8) (w : World) : Prop := Lib.IsBuilderF 43 5 B b (Lib.byteCells l) w
/-- What is not the builder in block b and no row of bytes lies as it lay. -/
def OthK (b : Nat) (w w' : World) : Prop := Lib.OthersKept 5 (some b) w w'
theorem OthK.refl (b : Nat) (w : World) : OthK b w w := Lib.OthersKept.refl _ _ _
theorem OthK.trans {b : Nat} {u v w : World} (h : OthK b u v) (k : OthK b v w) : OthK b u w := Lib.OthersKept.trans h k
theorem OthK.of {b : Nat} {w w' : World} (h : Below w.heap.size w w') : OthK b w w' := fun k o hk _ _ => by
  rw [h.block k (Array.getElem?_eq_some_iff.1 hk).1]; exact hk
theorem OthK.then {b : Nat} {u w w' : World} (h : OthK b u w) (k : Below w.heap.size w w') : OthK b u w' := h.trans (OthK.of k)
theorem HoldsK.new (w : World) : HoldsK w.heap.size w.heap.size [] (w.alloc (.cells #[.pointer none, .slice none 0 0] 43)) := Lib.IsBuilderF.of (HoldsB.fresh w)
theorem holdsK_lt {B b : Nat} {l : List UInt8} {w : World} (h : HoldsK B b l w) : b < w.heap.size := by
  rcases h with h | h
  · exact h.lt
  · exact h.lt
theorem builderAtF_below {T e : TypeId} {B b : Nat} {p : Value} {bs : List Value} {w w' : World} (h : Lib.BuilderAtF T e B b p bs w) (hb : Below w.heap.size w w') : Lib.BuilderAtF T e B b p bs w' := by
  have hlt := h.lt
  obtain ⟨h0, v, h1, h2, h3⟩ := h
  refine ⟨h0, v, by rw [hb.block b hlt]; exact h1, ?_, h3⟩
  obtain ⟨g1, g2⟩ := h2
  refine ⟨g1, ?_⟩
  rcases g2 with g2 | ⟨g, cap, cur, fz, hv, hg, hh, r⟩
  · exact Or.inl g2
  · refine Or.inr ⟨g, cap, cur, fz, hv, hg, ?_, r⟩
    rw [hb.block g (Array.getElem?_eq_some_iff.1 hh).1]; exact hh
/-- Another call, which changes nothing that was there, leaves the builder as it is. -/
theorem HoldsK.below {B b : Nat} {l : List UInt8} {w w' : World} (h : HoldsK B b l w) (hb : Below w.heap.size w w') : HoldsK B b l w' := by
  rcases h with h | h
  · exact .inl (builderAtF_below h hb)
  · exact .inr (builderAtF_below h hb)
theorem Bk.oth {w w' : World} {b n : Nat} {cs : List Value} {t : TypeId} (h : Bk w n cs t) (hb : OthK b w w') (hn : n ≠ b) (ht : t ≠ 5) : Bk w' n cs t := ⟨hb n _ h.lies (fun e => hn (by cases e; rfl)) (fun c fz e => ht (by cases e; rfl))⟩
theorem writeByteK (B b : Nat) (l : List UInt8) (c : UInt8) (w : World) (h : HoldsK B b l w) (hlen : l.length + 1 ≤ 140737488355328) (hBw : B ≤ w.heap.size) :
    Calls Tryd.prog 17 #[.pointer (some ⟨b, 0, none⟩), .int .u8 (c.toNat : Int)] w fun e w' => e = .returned .nilIface ∧ HoldsK B b (l ++ [c]) w' ∧ Below B w w' ∧ OthK b w w' := by
  refine (Any.Builder_WriteByte_k lays167 extraBByte B b (Lib.byteCells l) (c.toNat : Int) w h (by simpa [Lib.byteCells] using hlen) hBw).mono ?_
  rintro e w' ⟨rfl, h, hb, hk⟩
  refine ⟨rfl, .inr ?_, hb, hk⟩
  have e1 : Lib.byteCells (l ++ [c]) = Lib.byteCells l ++ [.int .u8 (c.toNat : Int)] := by simp [Lib.byteCells]
  rw [e1]; exact h
theorem writeStringK (B b : Nat) (l : List UInt8) (s : ByteArray) (w : World) (h : HoldsK B b l w) (hlen : l.length + s.size ≤ 140737488351232) (hBw : B ≤ w.heap.size) :
    Calls Tryd.prog 16 #[.pointer (some ⟨b, 0, none⟩), .string s] w fun e w' => e = .returned (.tuple #[.int .i64 s.size, .nilIface]) ∧ HoldsK B b (l ++ s.data.toList) w' ∧ Below B w w' ∧ OthK b w w' := by
  refine (Any.Builder_WriteString_k lays166 extraBText B b (Lib.byteCells l) s w h (by simp [Lib.byteCells]; omega) hBw).mono ?_
  rintro e w' ⟨rfl, h, hb, hk⟩
  refine ⟨rfl, .inr ?_, hb, hk⟩
  have e1 : Lib.byteCells (l ++ s.data.toList) = Lib.byteCells l ++ Lib.strCells s := by simp [Lib.byteCells, Lib.strCells]
  rw [e1]; exact h
theorem builderTextK (B b : Nat) (l : List UInt8) (w : World) (h : HoldsK B b l w) (hBw : B ≤ w.heap.size) :
    Calls Tryd.prog 18 #[.pointer (some ⟨b, 0, none⟩)] w fun e w' => e = .returned (.string (txt l)) ∧ HoldsK B b l w' ∧ Below B w w' ∧ OthK b w w' :=
  Any.Builder_String_any_k lays169 extraBString B b l w h hBw
end Go.Proofs.YtmnpnpmopbkabaaDoor

namespace Go.Proofs.YtmnpnpmopbkabaaDoor
open Go.RowKit
theorem OwnR.oth {B b : Nat} {w w' : World} {v : Value} {fs : List En} (h : OwnR B w v fs) (hb : OthK b w w') (hn : b < B) : OwnR B w' v fs := by
  refine ⟨h.1, ?_⟩
  rcases h.2 with q | ⟨g, cap, cur, rfl, h1, h2, h3⟩
  · exact .inl q
  · exact .inr ⟨g, cap, cur, rfl, h1, hb g _ h2 (fun e => by cases e; omega) (fun c fz e => by cases e), h3⟩
theorem en_ty : 34 ≠ 5 := by decide
theorem OwnR.cellsAt {B : Nat} {w : World} {q : Option Addr} {c : Nat} {p : List En} (h : OwnR B w (.slice q p.length c) p) (k : Nat) (g : k < p.length) : ∃ b o, q = some ⟨b, o, none⟩ ∧ EnAt w b (o + k * 5) p[k] := by
  obtain ⟨q', c', eq, hq⟩ := h.files
  cases eq
  rcases hq with t | ⟨b, o, rfl, hc⟩
  · rw [t] at g; simp at g
  · exact ⟨b, o, rfl, hc k g⟩
theorem plain_rest {l : List En} : ∀ e ∈ plainU l, e.file = false ∧ e.fname = ⟨#[]⟩ ∧ e.typ = ⟨#[]⟩ := by
  intro e he
  obtain ⟨x, _, rfl⟩ := List.mem_map.1 he
  exact ⟨rfl, rfl, rfl⟩

end Go.Proofs.YtmnpnpmopbkabaaDoor
