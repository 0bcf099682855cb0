/- A strings.Builder that a call has made itself, and the bytes that it holds. What WriteString does to a strings.Builder that the call has made itself. What String answers of a strings.Builder that the call has made itself. The program's Text of layer 10. What WriteByte does to a strings.Builder that the call has made itself. The program's Collapse answers by a function of lists of bytes. -/
import Derived.Test.YtdbabciafifnaaaGreatDoorProg
import Derived.Test.YtdbabciafifnaaaGreatDoorJvb28
import Derived.Test.YtdbabciafifnaaaGreatDoorJvb38
import Derived.Lib.Builder
import Derived.Lib.UnsafeStr
import Derived.Shelf.Strings.Builder1
import Derived.Shelf.Small.Strs

namespace Go.Proofs.YtdbabciafifnaaaGreatDoor
open Go.RowKit
/-- A builder in block b, of the call's own (from B on), that holds the bytes l. -/
def HoldsB (B b : Nat) (l : List UInt8) (w : World) : Prop := Lib.IsBuilder 176 5 B b (Lib.byteCells l) w
theorem HoldsB.fresh (w : World) : HoldsB w.heap.size w.heap.size [] (w.alloc (.cells #[.pointer none, .slice none 0 0] 176)) :=
  .inl ⟨Nat.le_refl _, .slice none 0 0, by simp [World.alloc, -World.alloc_eq], World.ownsRow_nil _ _ _ _, by simp [Value.ownBlock]⟩
theorem builderAt_below {T e : TypeId} {B b : Nat} {p : Value} {bs : List Value} {w w' : World} (h : Lib.BuilderAt T e B b p bs w) (hb : Below w.heap.size w w') : Lib.BuilderAt T e B b p bs w' := by
  have hlt := h.lt
  obtain ⟨h0, v, h1, h2, h3⟩ := h
  refine ⟨h0, v, by rw [hb.block b hlt]; exact h1, ?_, h3⟩
  obtain ⟨g1, g2⟩ := h2
  refine ⟨g1, ?_⟩
  rcases g2 with g2 | ⟨g, cap, cur, hv, hg, hh, r⟩
  · exact Or.inl g2
  · refine Or.inr ⟨g, cap, cur, hv, hg, ?_, r⟩
    rw [hb.block g ?_]; exact hh
    rcases Nat.lt_or_ge g w.heap.size with h' | h'
    · exact h'
    · simp [Array.getElem?_eq_none h'] at hh
/-- Another call, which changes nothing that was there, leaves the builder as it is. -/
theorem HoldsB.below {B b : Nat} {l : List UInt8} {w w' : World} (h : HoldsB B b l w) (hb : Below w.heap.size w w') : HoldsB B b l w' := by
  rcases h with h | h
  · exact .inl (builderAt_below h hb)
  · exact .inr (builderAt_below h hb)
end Go.Proofs.YtdbabciafifnaaaGreatDoor

namespace Go.Proofs.YtdbabciafifnaaaGreatDoor
open Go.Shelf Go.RowKit
set_option maxRecDepth 100000
def renBText : Go.Shelf.Ren := ⟨fun | 166 => 193 | 240 => 237 | 276 => 272 | n => n, fun | 0 => 0 | 3 => 3 | 4 => 4 | 5 => 5 | 9 => 9 | 20 => 20 | 37 => 69 | 70 => 174 | 72 => 176 | 75 => 178 | 80 => 180 | 164 => 239 | n => n, fun  | n => n⟩
theorem lays166 : Go.Proofs.Lays.n166 Tryz.prog renBText := {
  mixed := by kernel_rfl
  f166 := Tryz.func193.trans (congrArg some (by kernel_rfl))
  f240 := Tryz.func237.trans (congrArg some (by kernel_rfl))
  f276 := Tryz.func272.trans (congrArg some (by kernel_rfl))
  t0 := Tryz.underlying0
  a0 := Tryz.isAgg0
  z0 := Tryz.sizeOf0
  v0 := Tryz.zeroValue0
  t3 := Tryz.underlying3
  a3 := Tryz.isAgg3
  z3 := Tryz.sizeOf3
  v3 := Tryz.zeroValue3
  t4 := Tryz.underlying4
  a4 := Tryz.isAgg4
  z4 := Tryz.sizeOf4
  v4 := Tryz.zeroValue4
  t9 := Tryz.underlying9
  a9 := Tryz.isAgg9
  z9 := Tryz.sizeOf9
  v9 := Tryz.zeroValue9
  t20 := Tryz.underlying20
  a20 := Tryz.isAgg20
  z20 := Tryz.sizeOf20
  v20 := Tryz.zeroValue20
  t37 := Tryz.underlying69
  a37 := Tryz.isAgg69
  z37 := Tryz.sizeOf69
  v37 := Tryz.zeroValue69
  t70 := Tryz.underlying174
  a70 := Tryz.isAgg174
  z70 := Tryz.sizeOf174
  v70 := Tryz.zeroValue174
  t72 := Tryz.underlying176
  a72 := Tryz.isAgg176
  z72 := Tryz.sizeOf176
  v72 := Tryz.zeroValue176
  t75 := Tryz.underlying178
  a75 := Tryz.isAgg178
  z75 := Tryz.sizeOf178
  v75 := Tryz.zeroValue178
  t164 := Tryz.underlying239
  a164 := Tryz.isAgg239
  z164 := Tryz.sizeOf239
  v164 := Tryz.zeroValue239 }
theorem extraBText : Builder.Extra Tryz.prog renBText := {
  sizeBuilder := by kernel_rfl
  liesBuilder := by kernel_rfl
  t5 := Tryz.underlying5
  a5 := Tryz.isAgg5
  z5 := Tryz.sizeOf5
  v5 := Tryz.zeroValue5
  infoByte := by kernel_rfl
  cellsByte := by kernel_rfl
  sizeByte := by kernel_rfl
  neB5 := by decide }
theorem writeString (B b : Nat) (l : List UInt8) (s : ByteArray) (w : World) (h : HoldsB B b l w) (hlen : l.length + s.size ≤ 140737488351232) (hBw : B ≤ w.heap.size) :
    Calls Tryz.prog 193 #[.pointer (some ⟨b, 0, none⟩), .string s] w fun e w' => e = .returned (.tuple #[.int .i64 s.size, .nilIface]) ∧ HoldsB B b (l ++ s.data.toList) w' ∧ Below B w w' := by
  refine (Any.Builder_WriteString lays166 extraBText B b (Lib.byteCells l) s w h (by simp [Lib.byteCells]; omega) hBw).mono ?_
  rintro e w' ⟨rfl, h, hb⟩
  refine ⟨rfl, .inr ?_, hb⟩
  have e1 : Lib.byteCells (l ++ s.data.toList) = Lib.byteCells l ++ Lib.strCells s := by simp [Lib.byteCells, Lib.strCells]
  rw [e1]; exact h
end Go.Proofs.YtdbabciafifnaaaGreatDoor

namespace Go.Proofs.YtdbabciafifnaaaGreatDoor
open Go.Shelf Go.RowKit
set_option maxRecDepth 100000
def renBString : Go.Shelf.Ren := ⟨fun | 169 => 191 | n => n, fun | 0 => 0 | 3 => 3 | 5 => 5 | 9 => 9 | 37 => 69 | 70 => 174 | 72 => 176 | 127 => 183 | n => n, fun  | n => n⟩
theorem lays169 : Go.Proofs.Lays.n169 Tryz.prog renBString := {
  mixed := by kernel_rfl
  f169 := Tryz.func191.trans (congrArg some (by kernel_rfl))
  t0 := Tryz.underlying0
  a0 := Tryz.isAgg0
  z0 := Tryz.sizeOf0
  v0 := Tryz.zeroValue0
  t3 := Tryz.underlying3
  a3 := Tryz.isAgg3
  z3 := Tryz.sizeOf3
  v3 := Tryz.zeroValue3
  t9 := Tryz.underlying9
  a9 := Tryz.isAgg9
  z9 := Tryz.sizeOf9
  v9 := Tryz.zeroValue9
  t37 := Tryz.underlying69
  a37 := Tryz.isAgg69
  z37 := Tryz.sizeOf69
  v37 := Tryz.zeroValue69
  t70 := Tryz.underlying174
  a70 := Tryz.isAgg174
  z70 := Tryz.sizeOf174
  v70 := Tryz.zeroValue174
  t72 := Tryz.underlying176
  a72 := Tryz.isAgg176
  z72 := Tryz.sizeOf176
  v72 := Tryz.zeroValue176
  t127 := Tryz.underlying183
  a127 := Tryz.isAgg183
  z127 := Tryz.sizeOf183
  v127 := Tryz.zeroValue183 }
theorem extraBString : Builder.Extra Tryz.prog renBString := {
  sizeBuilder := by kernel_rfl
  liesBuilder := by kernel_rfl
  t5 := Tryz.underlying5
  a5 := Tryz.isAgg5
  z5 := Tryz.sizeOf5
  v5 := Tryz.zeroValue5
  infoByte := by kernel_rfl
  cellsByte := by kernel_rfl
  sizeByte := by kernel_rfl
  neB5 := by decide }
theorem builderText (B b : Nat) (l : List UInt8) (w : World) (h : HoldsB B b l w) (hBw : B ≤ w.heap.size) :
    Calls Tryz.prog 191 #[.pointer (some ⟨b, 0, none⟩)] w fun e w' => e = .returned (.string (txt l)) ∧ Below B w w' :=
  Any.Builder_String_any lays169 extraBString B b l w h hBw
end Go.Proofs.YtdbabciafifnaaaGreatDoor

namespace Go.Proofs.YtdbabciafifnaaaGreatDoor
open Go.RowKit
def textQ (l : List Nd) (id : Int) : ByteArray := if hasN l id = true then textP l id else ⟨#[]⟩
theorem txt_app (s : List UInt8) (t : ByteArray) : txt (s ++ t.data.toList) = txt s ++ t := by
  apply ByteArray.ext
  show (s ++ t.data.toList).toArray = _
  rw [ByteArray.data_append]
  show (s ++ t.data.toList).toArray = s.toArray ++ t.data
  simp
set_option maxHeartbeats 4000000 in
set_option maxRecDepth 100000 in
theorem text_any (v : Value) (l : List Nd) (id : Int) (w : World) (hv : NodesV w v l) (hz : DocSz l) :
    Calls Tryz.prog 145 #[v, .int .i64 id] w fun e w' => e = .returned (.string (textQ l id)) ∧ Below w.heap.size w w' := by
  have HH := hide (isThere_any v l id w hv hz)
  obtain ⟨p, c, rfl, hv⟩ := hv
  have HV := hide hv
  clear hv hz
  cases q : hasN l id with
  | false =>
    rw [q] at HH
    have E : Hid (textQ l id = ⟨#[]⟩) := by show _ = _; unfold textQ; rw [q]; rfl
    clear q
    go_enter Tryz.func145, Tryz.ntmps145
    go_wp2_with fail
    refine HH.out.mono ?_
    rintro e w1 ⟨rfl, b1⟩
    go_wp2_with fail
    go_ret
    exact ⟨by rw [E.out]; rfl, b1⟩
  | true =>
    rw [q] at HH
    obtain ⟨hR, hi⟩ := has_is q
    obtain ⟨m0, rfl⟩ : ∃ m : Nat, id = (m : Int) := ⟨id.toNat, by have := hi.1; omega⟩
    have h0 : m0 < l.length := by have := hi.2; omega
    have E : Hid (textQ l (m0 : Int) = textF l l[m0].text l[m0].kids) := by show _ = _; unfold textQ; rw [q]; show textP l (m0 : Int) = _; unfold textP; rw [Int.toNat_natCast, nd_at h0]
    have hlen := hR.len.2
    obtain ⟨b, o, rfl, hcell⟩ : ∃ b o, p = some ⟨b, o, none⟩ ∧ ∀ i (h : i < l.length), ∃ va vk, NodeAt w b (o + i * 5) l[i] va vk := by
      rcases HV.out with t | t
      · rw [t] at h0; simp at h0
      · exact t
    have HC := hide hcell
    obtain ⟨va, vk, N0⟩ := hcell m0 h0
    have ts := text_small hR h0
    have kf := kids_few hR h0
    have KD := hide (fun x hx => hR.kid m0 h0 x hx)
    have TS := hide (fun i hi => text_small hR (i := i) hi)
    rw [nd_at h0] at ts kf KD
    obtain ⟨pk, ck, rfl, hks⟩ := N0.ks
    have HK := hide hks
    have NW : Hid (∀ W, Below w.heap.size w W → NodeAt W b (o + m0 * 5) l[m0] va (.slice pk l[m0].kids.length ck)) := fun W hb => N0.below hb
    have i0 : (0 : Int) ≤ (m0 : Int) := by omega
    have i1 : (m0 : Int) < (l.length : Int) := by omega
    clear q hi hR hcell HV N0 hks
    go_enter Tryz.func145, Tryz.ntmps145
    go_wp2_with fail
    refine HH.out.mono ?_
    rintro e w1 ⟨rfl, b1⟩
    have a1 := (NW.out w1 b1).text
    have ln : b < w1.heap.size := World.block_lt_of_cell? _ _ a1
    have lne : b ≠ w1.heap.size := by omega
    have HB0 := hide (HoldsB.fresh w1)
    have B1 := hide b1
    clear HH b1
    go_wp2_with fail
    have W1 : w1.heap.size ≤ (w1.alloc (.cells #[.pointer none, .slice none 0 0] 176)).heap.size := by simp
    refine (writeString w1.heap.size w1.heap.size [] l[m0].text _ HB0.out (by rw [List.length_nil]; omega) W1).mono ?_
    rintro e w2 ⟨rfl, hb2, b2⟩
    have HB2 := hide hb2
    rw [List.nil_append] at HB2
    have B2a : Hid (Below w1.heap.size w1 w2) := ((Below.refl _ w1).alloc (Nat.le_refl _) _).trans b2
    have B2 : Hid (Below w.heap.size w w2) := chain B1.out B2a.out
    have a4 := (NW.out w2 B2.out).kids
    clear hb2 b2 HB0 W1 a1 ln lne
    go_wp2_with fail
    go_loopw [24] (fun iv wr => ∃ (j : Nat) (s : List UInt8), j ≤ l[m0].kids.length ∧ iv = .int .i64 j ∧ s.length ≤ 4000 + 4000 * j ∧ Hid (HoldsB w1.heap.size w1.heap.size s wr) ∧ Hid (textF l (txt s) (l[m0].kids.drop j) = textQ l (m0 : Int)) ∧ Hid (Below w1.heap.size w1 wr)) (fun iv _ => l[m0].kids.length - (intOf iv).toNat)
    case atStart => exact ⟨0, l[m0].text.data.toList, Nat.zero_le _, rfl, by simpa using ts, HB2, by show _ = _; rw [List.drop_zero, txt_toList]; exact E.out.symm, B2a⟩
    case round =>
      rename World => wr
      obtain ⟨j, s, hj, rfl, hs, HBr, hc, BW⟩ := hrel
      clear HB2 B2a B2 a4
      have Bw := hide (chain B1.out BW.out)
      by_cases h : j < l[m0].kids.length
      · have j1 : (j : Int) < (l[m0].kids.length : Int) := by omega
        have j0 : (0 : Int) ≤ (j : Int) := by omega
        obtain ⟨bk, ok, rfl, hk⟩ : ∃ bk ok, pk = some ⟨bk, ok, none⟩ ∧ ∀ t (h : t < l[m0].kids.length), w.cell? ⟨bk, ok + t, none⟩ = some (.int .i64 l[m0].kids[t]) := by
          rcases HK.out with q | q
          · rw [q] at h; simp at h
          · exact q
        have a5 := cell_below (hk j h) Bw.out
        have hkd := KD.out l[m0].kids[j] (List.getElem_mem _)
        obtain ⟨m, em⟩ : ∃ m : Nat, l[m0].kids[j] = (m : Int) := ⟨l[m0].kids[j].toNat, by omega⟩
        have hm : m < l.length := by omega
        have hc1 := hc.out
        rw [List.drop_eq_getElem_cons h] at hc1
        have hc2 : textF l (txt s ++ (nd l l[m0].kids[j].toNat).text) (l[m0].kids.drop (j + 1)) = textQ l (m0 : Int) := hc1
        rw [em, Int.toNat_natCast, nd_at hm, ← txt_app] at hc2
        have tm := TS.out m hm
        rw [nd_at hm] at tm
        obtain ⟨vam, vkm, NM⟩ := HC.out m hm
        have a6 := (NM.below Bw.out).text
        rw [em] at a5
        have m0' : (0 : Int) ≤ (m : Int) := by omega
        have m1 : (m : Int) < (l.length : Int) := by omega
        have HC2 := hide hc2
        have HWS := hide (writeString w1.heap.size w1.heap.size s l[m].text wr HBr.out (by omega) BW.out.size)
        have SZ : Hid ((s ++ l[m].text.data.toList).length ≤ 4000 + 4000 * (j + 1)) := by
          show _ ≤ _
          rw [List.length_append]
          have : l[m].text.data.toList.length = l[m].text.size := by simp
          omega
        clear hk hkd em hc hc1 hc2 NM tm
        go_wp2_with fail
        refine HWS.out.mono ?_
        rintro e w3 ⟨rfl, hb3, b3⟩
        go_wp2_with fail
        go_roundw
        case rel => exact ⟨j + 1, _, by omega, by go_num, SZ.out, hb3, HC2, BW.out.trans b3⟩
        case measure => simp [intOf]; omega
      · obtain rfl : j = l[m0].kids.length := by omega
        have E2 : Hid (txt s = textQ l (m0 : Int)) := by
          have := hc.out
          rw [List.drop_length] at this
          exact this
        have HS := hide (builderText w1.heap.size w1.heap.size s wr HBr.out BW.out.size)
        clear hc h
        go_wp2_with fail
        refine HS.out.mono ?_
        rintro e w3 ⟨rfl, b3⟩
        go_wp2_with fail
        go_ret
        exact ⟨by rw [← E2.out]; rfl, chain B1.out (BW.out.trans b3)⟩
end Go.Proofs.YtdbabciafifnaaaGreatDoor

namespace Go.Proofs.YtdbabciafifnaaaGreatDoor
open Go.Shelf Go.RowKit
set_option maxRecDepth 100000
def renBByte : Go.Shelf.Ren := ⟨fun | 167 => 190 | 240 => 237 | 276 => 272 | n => n, fun | 0 => 0 | 4 => 4 | 5 => 5 | 9 => 9 | 20 => 20 | 37 => 69 | 70 => 174 | 72 => 176 | 75 => 178 | 80 => 180 | 164 => 239 | n => n, fun  | n => n⟩
theorem lays167 : Go.Proofs.Lays.n167 Tryz.prog renBByte := {
  mixed := by kernel_rfl
  f167 := Tryz.func190.trans (congrArg some (by kernel_rfl))
  f240 := Tryz.func237.trans (congrArg some (by kernel_rfl))
  f276 := Tryz.func272.trans (congrArg some (by kernel_rfl))
  t0 := Tryz.underlying0
  a0 := Tryz.isAgg0
  z0 := Tryz.sizeOf0
  v0 := Tryz.zeroValue0
  t4 := Tryz.underlying4
  a4 := Tryz.isAgg4
  z4 := Tryz.sizeOf4
  v4 := Tryz.zeroValue4
  t5 := Tryz.underlying5
  a5 := Tryz.isAgg5
  z5 := Tryz.sizeOf5
  v5 := Tryz.zeroValue5
  t9 := Tryz.underlying9
  a9 := Tryz.isAgg9
  z9 := Tryz.sizeOf9
  v9 := Tryz.zeroValue9
  t20 := Tryz.underlying20
  a20 := Tryz.isAgg20
  z20 := Tryz.sizeOf20
  v20 := Tryz.zeroValue20
  t37 := Tryz.underlying69
  a37 := Tryz.isAgg69
  z37 := Tryz.sizeOf69
  v37 := Tryz.zeroValue69
  t70 := Tryz.underlying174
  a70 := Tryz.isAgg174
  z70 := Tryz.sizeOf174
  v70 := Tryz.zeroValue174
  t72 := Tryz.underlying176
  a72 := Tryz.isAgg176
  z72 := Tryz.sizeOf176
  v72 := Tryz.zeroValue176
  t75 := Tryz.underlying178
  a75 := Tryz.isAgg178
  z75 := Tryz.sizeOf178
  v75 := Tryz.zeroValue178
  t164 := Tryz.underlying239
  a164 := Tryz.isAgg239
  z164 := Tryz.sizeOf239
  v164 := Tryz.zeroValue239 }
theorem extraBByte : Builder.Extra Tryz.prog renBByte := {
  sizeBuilder := by kernel_rfl
  liesBuilder := by kernel_rfl
  t5 := Tryz.underlying5
  a5 := Tryz.isAgg5
  z5 := Tryz.sizeOf5
  v5 := Tryz.zeroValue5
  infoByte := by kernel_rfl
  cellsByte := by kernel_rfl
  sizeByte := by kernel_rfl
  neB5 := by decide }
theorem writeByte (B b : Nat) (l : List UInt8) (c : UInt8) (w : World) (h : HoldsB B b l w) (hlen : l.length + 1 ≤ 140737488355328) (hBw : B ≤ w.heap.size) :
    Calls Tryz.prog 190 #[.pointer (some ⟨b, 0, none⟩), .int .u8 (c.toNat : Int)] w fun e w' => e = .returned .nilIface ∧ HoldsB B b (l ++ [c]) w' ∧ Below B w w' := by
  refine (Any.Builder_WriteByte lays167 extraBByte B b (Lib.byteCells l) (c.toNat : Int) w h (by simpa [Lib.byteCells] using hlen) hBw).mono ?_
  rintro e w' ⟨rfl, h, hb⟩
  refine ⟨rfl, .inr ?_, hb⟩
  have e1 : Lib.byteCells (l ++ [c]) = Lib.byteCells l ++ [.int .u8 (c.toNat : Int)] := by simp [Lib.byteCells]
  rw [e1]; exact h
end Go.Proofs.YtdbabciafifnaaaGreatDoor

namespace Go.Proofs.YtdbabciafifnaaaGreatDoor
open Go.Shelf Go.RowKit
set_option maxRecDepth 100000
def iren : Go.Shelf.Ren := ⟨fun | 137 => 167 | 217 => 215 | 266 => 260 | n => n, fun | 3 => 3 | 5 => 5 | 9 => 9 | 72 => 176 | n => n, fun  | n => n⟩
theorem lays137 : Go.Proofs.Lays.n137 Tryz.prog iren := {
  mixed := by kernel_rfl
  f137 := Tryz.func167.trans (congrArg some (by kernel_rfl))
  f217 := Tryz.func215.trans (congrArg some (by kernel_rfl))
  f266 := Tryz.func260.trans (congrArg some (by kernel_rfl))
  t3 := Tryz.underlying3
  a3 := Tryz.isAgg3
  z3 := Tryz.sizeOf3
  v3 := Tryz.zeroValue3
  t5 := Tryz.underlying5
  a5 := Tryz.isAgg5
  z5 := Tryz.sizeOf5
  v5 := Tryz.zeroValue5
  t9 := Tryz.underlying9
  a9 := Tryz.isAgg9
  z9 := Tryz.sizeOf9
  v9 := Tryz.zeroValue9 }
theorem index_mem (c : UInt8) : ∀ l : List UInt8, 0 ≤ Lib.indexByte l c ↔ l.contains c = true
  | [] => by simp [Lib.indexByte]
  | b :: l => by
    have ih := index_mem c l
    have ge := Lib.indexByte_ge l c
    unfold Lib.indexByte
    by_cases h : b = c
    · subst h; simp
    · have h1 : (b == c) = false := by simpa using h
      have h2 : (c == b) = false := by simpa using fun e => h e.symm
      rw [h1, List.contains_cons, h2, Bool.false_or]
      by_cases g : Lib.indexByte l c = -1
      · rw [g] at ih ⊢; simp at ih ⊢; exact ih
      · have g1 : (Lib.indexByte l c == -1) = false := by simpa using g
        rw [g1, ← ih]; simp; omega
theorem index_bl (c : UInt8) : decide (0 ≤ Lib.indexByte [9, 10, 12, 13, 32] c) = isBl c := by
  have := index_mem c [9, 10, 12, 13, 32]
  unfold isBl blanks
  cases h : ([9, 10, 12, 13, 32] : List UInt8).contains c with
  | true => rw [h] at this; exact decide_eq_true (this.2 rfl)
  | false => rw [h] at this; exact decide_eq_false (fun x => by have := this.1 x; cases this)
set_option maxHeartbeats 400000 in
theorem isBlank_any (c : UInt8) (w : World) :
    Calls Tryz.prog 189 #[.int .u8 (c.toNat : Int)] w fun e w' => e = .returned (.bool (isBl c)) ∧ w' = w := by
  have hI : Calls Tryz.prog 167 #[.string ⟨#[9, 10, 12, 13, 32]⟩, .int .u8 (c.toNat : Int)] w fun e w' => e = .returned (.int .i64 (Lib.indexByte [9, 10, 12, 13, 32] c)) ∧ w' = w := by
    have := Any.strings_IndexByte lays137 ⟨#[9, 10, 12, 13, 32]⟩ (c.toNat : Int) w
    have e : ((c.toNat : Int)).toNat.toUInt8 = c := by simp
    rw [e] at this; exact this
  have HI := hide hI
  clear hI
  rw [← index_bl c]
  go_enter Tryz.func189, Tryz.ntmps189
  go_wp2_with fail
  refine HI.out.mono ?_
  rintro e w1 ⟨rfl, rfl⟩
  go_wp2_with fail
  go_ret
  exact ⟨rfl, rfl⟩
set_option maxHeartbeats 1000000 in
theorem collapse_raw (s : ByteArray) (w : World) (hs : s.size ≤ 1099511627776) :
    Calls Tryz.prog 144 #[.string s] w fun e w' => e = .returned (.string (txt (colP 32 (stripS s).data.toList))) ∧ Below w.heap.size w w' := by
  have hS := fun w => strip_any s w (by omega)
  have he : EndsB (stripS s).data.toList := stripL_ends s.data.toList
  have hz := stripS_size s
  generalize stripS s = t at *
  have HS := hide hS
  clear hS
  go_enter Tryz.func144, Tryz.ntmps144
  go_wp2_with fail
  refine (HS.out _).mono ?_
  rintro e w1 ⟨rfl, b1⟩
  have h0 := (HoldsB.fresh w).below b1
  have b0 : Below w.heap.size w w1 := ((Below.refl _ w).alloc (Nat.le_refl _) _).trans (b1.mono (by simp))
  go_wp2_with fail
  go_loopw [11] (fun i wr => ∃ k : Nat, k ≤ t.size ∧ i = .int .i64 k ∧ HoldsB w.heap.size w.heap.size (colP 32 (t.data.toList.take k)) wr ∧ Below w.heap.size w wr) (fun i _ => t.size - (intOf i).toNat)
  case atStart => exact ⟨0, Nat.zero_le _, rfl, h0, b0⟩
  case round =>
    obtain ⟨k, hk, rfl, hh, hb⟩ := hrel
    by_cases hlt : k < t.size
    · have hle := colP_take_le t k
      have HT := hide (colP_take t k hlt)
      have hsz := hb.size
      have HE := hide (byteAt_eq t k hlt)
      cases hc : isBl t[k] with
      | false =>
        have HP := hide (cpiece_no (p := prevAt32 t k) (show isBl (byteAt t k) = false by rw [← HE.out]; exact hc))
        go_wp2_with fail
        refine (isBlank_any t[k] _).mono ?_
        rintro e w2 ⟨rfl, rfl⟩
        go_wp2_with fail
        refine (writeByte _ _ _ t[k] _ hh (by omega) hb.size).mono ?_
        rintro e w3 ⟨rfl, h3, b3⟩
        go_wp2_with fail
        go_roundw
        case rel => exact ⟨k + 1, by omega, by go_num, by rw [HT.out, HP.out, ← HE.out]; exact h3, hb.trans b3⟩
        case measure => simp [intOf]; omega
      | true =>
        have h0k : 0 < k := first_no t k he hlt hc
        have hk1 : k - 1 < t.size := by omega
        have hz1 : ((k : Int) - 1).toNat = k - 1 := by omega
        have HQ := hide (prev32_eq t k h0k hk1)
        cases hp : isBl (t[k - 1]'hk1) with
        | false =>
          have HP := hide (cpiece_one (p := prevAt32 t k) (show isBl (byteAt t k) = true by rw [← HE.out]; exact hc) (by rw [← HQ.out]; exact hp))
          go_wp2_with fail
          refine (isBlank_any t[k] _).mono ?_
          rintro e w2 ⟨rfl, rfl⟩
          go_wp2_with fail
          refine (isBlank_any (t[k - 1]'hk1) _).mono ?_
          rintro e w3 ⟨rfl, rfl⟩
          go_wp2_with fail
          refine (writeByte _ _ _ 32 _ hh (by omega) hb.size).mono ?_
          rintro e w4 ⟨rfl, h4, b4⟩
          go_wp2_with fail
          go_roundw
          case rel => exact ⟨k + 1, by omega, by go_num, by rw [HT.out, HP.out]; exact h4, hb.trans b4⟩
          case measure => simp [intOf]; omega
        | true =>
          have HP := hide (cpiece_nil (p := prevAt32 t k) (show isBl (byteAt t k) = true by rw [← HE.out]; exact hc) (by rw [← HQ.out]; exact hp))
          go_wp2_with fail
          refine (isBlank_any t[k] _).mono ?_
          rintro e w2 ⟨rfl, rfl⟩
          go_wp2_with fail
          refine (isBlank_any (t[k - 1]'hk1) _).mono ?_
          rintro e w3 ⟨rfl, rfl⟩
          go_wp2_with fail
          go_roundw
          case rel => exact ⟨k + 1, by omega, by go_num, by rw [HT.out, HP.out, List.append_nil]; exact hh, hb⟩
          case measure => simp [intOf]; omega
    · obtain rfl : k = t.size := by omega
      rw [take_all32] at hh
      go_wp2_with fail
      refine (builderText _ _ _ _ hh hb.size).mono ?_
      rintro r w2 ⟨rfl, b2⟩
      go_wp2_with fail
      go_ret
      exact ⟨rfl, hb.trans b2⟩
theorem collapse_any (s : ByteArray) (w : World) (hs : s.size ≤ 1099511627776) :
    Calls Tryz.prog 144 #[.string s] w fun e w' => e = .returned (.string (collapseS s)) ∧ Below w.heap.size w w' := by
  have e : txt (colP 32 (stripS s).data.toList) = collapseS s := congrArg txt (colP_strip s.data.toList 32)
  rw [← e]; exact collapse_raw s w hs

end Go.Proofs.YtdbabciafifnaaaGreatDoor
