/- A strings.Builder that a call has made itself, written and read, and what the call has laid besides stays. The program's Encode of layer 19. Stage 19's wakes and its laws, walked. The program's tables of layer 19's road read as its text lays them. -/
import Derived.Test.YtfedeiipinamjaaDoorJur2
import Derived.Test.YtfedeiipinamjaaDoorJur10
import Derived.Shelf.Strings.BuilderK
import Derived.Lib.SplitLaws
import Derived.Lib.Join
import Derived.Shelf.Strings.Cut
import Derived.Shelf.Abstract

namespace Go.Proofs.YtfedeiipinamjaaDoor
open Go.Shelf Go.RowKit
set_option maxRecDepth 100000
/-- A builder in block b, of the call's own (from B on), that holds the bytes l. -/
def HoldsK (B b : Nat) (l : List UInt8) (w : World) : Prop := Lib.IsBuilderF 36 5 B b (Lib.byteCells l) w
/-- What is not the builder in block b and no row of bytes lies as it lay. -/
def OthK (b : Nat) (w w' : World) : Prop := Lib.OthersKept 5 (some b) w w'
theorem OthK.refl (b : Nat) (w : World) : OthK b w w := Lib.OthersKept.refl _ _ _
theorem OthK.trans {b : Nat} {u v w : World} (h : OthK b u v) (k : OthK b v w) : OthK b u w := Lib.OthersKept.trans h k
theorem OthK.of {b : Nat} {w w' : World} (h : Below w.heap.size w w') : OthK b w w' := fun k o hk _ _ => by
  rw [h.block k (Array.getElem?_eq_some_iff.1 hk).1]; exact hk
theorem OthK.then {b : Nat} {u w w' : World} (h : OthK b u w) (k : Below w.heap.size w w') : OthK b u w' := h.trans (OthK.of k)
theorem HoldsK.new (w : World) : HoldsK w.heap.size w.heap.size [] (w.alloc (.cells #[.pointer none, .slice none 0 0] 36)) := Lib.IsBuilderF.of (HoldsB.fresh w)
theorem holdsK_lt {B b : Nat} {l : List UInt8} {w : World} (h : HoldsK B b l w) : b < w.heap.size := by
  rcases h with h | h
  · exact h.lt
  · exact h.lt
theorem builderAtF_below {T e : TypeId} {B b : Nat} {p : Value} {bs : List Value} {w w' : World} (h : Lib.BuilderAtF T e B b p bs w) (hb : Below w.heap.size w w') : Lib.BuilderAtF T e B b p bs w' := by
  have hlt := h.lt
  obtain ⟨h0, v, h1, h2, h3⟩ := h
  refine ⟨h0, v, by rw [hb.block b hlt]; exact h1, ?_, h3⟩
  obtain ⟨g1, g2⟩ := h2
  refine ⟨g1, ?_⟩
  rcases g2 with g2 | ⟨g, cap, cur, fz, hv, hg, hh, r⟩
  · exact Or.inl g2
  · refine Or.inr ⟨g, cap, cur, fz, hv, hg, ?_, r⟩
    rw [hb.block g (Array.getElem?_eq_some_iff.1 hh).1]; exact hh
/-- Another call, which changes nothing that was there, leaves the builder as it is. -/
theorem HoldsK.below {B b : Nat} {l : List UInt8} {w w' : World} (h : HoldsK B b l w) (hb : Below w.heap.size w w') : HoldsK B b l w' := by
  rcases h with h | h
  · exact .inl (builderAtF_below h hb)
  · exact .inr (builderAtF_below h hb)
theorem Bk.oth {w w' : World} {b n : Nat} {cs : List Value} {t : TypeId} (h : Bk w n cs t) (hb : OthK b w w') (hn : n ≠ b) (ht : t ≠ 5) : Bk w' n cs t := ⟨hb n _ h.lies (fun e => hn (by cases e; rfl)) (fun c fz e => ht (by cases e; rfl))⟩
theorem writeByteK (B b : Nat) (l : List UInt8) (c : UInt8) (w : World) (h : HoldsK B b l w) (hlen : l.length + 1 ≤ 140737488355328) (hBw : B ≤ w.heap.size) :
    Calls Tryd.prog 19 #[.pointer (some ⟨b, 0, none⟩), .int .u8 (c.toNat : Int)] w fun e w' => e = .returned .nilIface ∧ HoldsK B b (l ++ [c]) w' ∧ Below B w w' ∧ OthK b w w' := by
  refine (Any.Builder_WriteByte_k lays167 extraBByte B b (Lib.byteCells l) (c.toNat : Int) w h (by simpa [Lib.byteCells] using hlen) hBw).mono ?_
  rintro e w' ⟨rfl, h, hb, hk⟩
  refine ⟨rfl, .inr ?_, hb, hk⟩
  have e1 : Lib.byteCells (l ++ [c]) = Lib.byteCells l ++ [.int .u8 (c.toNat : Int)] := by simp [Lib.byteCells]
  rw [e1]; exact h
theorem writeStringK (B b : Nat) (l : List UInt8) (s : ByteArray) (w : World) (h : HoldsK B b l w) (hlen : l.length + s.size ≤ 140737488351232) (hBw : B ≤ w.heap.size) :
    Calls Tryd.prog 20 #[.pointer (some ⟨b, 0, none⟩), .string s] w fun e w' => e = .returned (.tuple #[.int .i64 s.size, .nilIface]) ∧ HoldsK B b (l ++ s.data.toList) w' ∧ Below B w w' ∧ OthK b w w' := by
  refine (Any.Builder_WriteString_k lays166 extraBText B b (Lib.byteCells l) s w h (by simp [Lib.byteCells]; omega) hBw).mono ?_
  rintro e w' ⟨rfl, h, hb, hk⟩
  refine ⟨rfl, .inr ?_, hb, hk⟩
  have e1 : Lib.byteCells (l ++ s.data.toList) = Lib.byteCells l ++ Lib.strCells s := by simp [Lib.byteCells, Lib.strCells]
  rw [e1]; exact h
theorem builderTextK (B b : Nat) (l : List UInt8) (w : World) (h : HoldsK B b l w) (hBw : B ≤ w.heap.size) :
    Calls Tryd.prog 22 #[.pointer (some ⟨b, 0, none⟩)] w fun e w' => e = .returned (.string (txt l)) ∧ HoldsK B b l w' ∧ Below B w w' ∧ OthK b w w' :=
  Any.Builder_String_any_k lays169 extraBString B b l w h hBw
end Go.Proofs.YtfedeiipinamjaaDoor

namespace Go.Proofs.YtfedeiipinamjaaDoor
open Go.RowKit
set_option maxRecDepth 100000
/-- The tables that layer 19's road names. -/
def UrTabs (w : World) : Prop := Signs w ∧ Digs w ∧ SomeMax w
theorem UrTabs.below {w w' : World} (h : UrTabs w) (hb : Below w.heap.size w w') : UrTabs w' := ⟨h.1.below hb, h.2.1.below hb, h.2.2.below hb⟩
theorem OwnR.oth {B b : Nat} {w w' : World} {v : Value} {fs : List En} (h : OwnR B w v fs) (hb : OthK b w w') (hn : b < B) : OwnR B w' v fs := by
  refine ⟨h.1, ?_⟩
  rcases h.2 with q | ⟨g, cap, cur, rfl, h1, h2, h3⟩
  · exact .inl q
  · exact .inr ⟨g, cap, cur, rfl, h1, hb g _ h2 (fun e => by cases e; omega) (fun c fz e => by cases e), h3⟩
theorem UrTabs.under {B : Nat} {w w' : World} (h : UrTabs w) (hb : Below B w w') (hB : 0 < B ∧ 1 < B ∧ 2 < B) : UrTabs w' :=
  ⟨fun k hk => (hb.cell hB.1).trans (h.1 k hk), h.2.1.under hb hB.2.1, by obtain ⟨m, hm⟩ := h.2.2; exact ⟨m, (hb.cell hB.2.2).trans hm⟩⟩
theorem UrTabs.lt {w : World} (h : UrTabs w) : 0 < w.heap.size ∧ 1 < w.heap.size ∧ 2 < w.heap.size :=
  ⟨World.block_lt_of_cell? _ _ (h.1 0 (by decide)), World.block_lt_of_cell? _ _ (h.2.1 0 (by decide)), by obtain ⟨m, hm⟩ := h.2.2; exact World.block_lt_of_cell? _ _ hm⟩
/-- The tables, in a world that keeps what lies below B, where they lie. -/
structure TabsU (B : Nat) (w : World) : Prop where
  tabs : UrTabs w
  low : 0 < B ∧ 1 < B ∧ 2 < B
theorem TabsU.of {w : World} (h : UrTabs w) : TabsU w.heap.size w := ⟨h, h.lt⟩
theorem TabsU.under {B : Nat} {w w' : World} (h : TabsU B w) (hb : Below B w w') : TabsU B w' := ⟨h.tabs.under hb h.low, h.low⟩
theorem TabsU.below {B : Nat} {w w' : World} (h : TabsU B w) (hb : Below w.heap.size w w') : TabsU B w' := ⟨h.tabs.below hb, h.low⟩
theorem form_tabs (s : ByteArray) (B : Nat) (w : World) (hs : s.size ≤ 268435456) (hT : TabsU B w) :
    Calls Tryd.prog 21 #[.string s] w fun r w' => r = .returned (.string (formS s)) ∧ Below w.heap.size w w' := form_any s w hs hT.tabs.1 hT.tabs.2.1 hT.tabs.2.2
theorem en_ty : 31 ≠ 5 := by decide
/-- Where the entries of a row of the call's own lie. -/
theorem OwnR.cellsAt {B : Nat} {w : World} {q : Option Addr} {c : Nat} {p : List En} (h : OwnR B w (.slice q p.length c) p) (k : Nat) (g : k < p.length) : ∃ b o, q = some ⟨b, o, none⟩ ∧ EnAt w b (o + k * 5) p[k] := by
  obtain ⟨q', c', eq, hq⟩ := h.files
  cases eq
  rcases hq with t | ⟨b, o, rfl, hc⟩
  · rw [t] at g; simp at g
  · exact ⟨b, o, rfl, hc k g⟩
theorem plain_rest {l : List En} : ∀ e ∈ plainU l, e.file = false ∧ e.fname = ⟨#[]⟩ ∧ e.typ = ⟨#[]⟩ := by
  intro e he
  obtain ⟨x, _, rfl⟩ := List.mem_map.1 he
  exact ⟨rfl, rfl, rfl⟩
set_option maxHeartbeats 8000000 in
theorem urEncode_any (n : Nat) (v : Value) (l : List En) (w : World) (hv : FilesV w v l) (hn : n ≤ 1000000) (hl : EnsOK n l) (hT : UrTabs w) :
    Calls Tryd.prog 13 #[v] w fun e w' => e = .returned (.string (urlS l)) ∧ Below w.heap.size w w' := by
  have ALB : Hid (Below w.heap.size w (w.alloc (.cells #[.pointer none, .slice none 0 0] 36))) := (Below.refl _ w).alloc (Nat.le_refl _) _
  have HP := hide (urPlainO_any n v l _ (hv.below ALB.out) (by omega) hl)
  have HBN := hide (HoldsK.new w)
  have TW := hide (((TabsU.of hT).under ALB.out))
  have szB : (w.alloc (.cells #[.pointer none, .slice none 0 0] 36)).heap.size = w.heap.size + 1 := by simp
  have PS := hide (plain_sizes hl)
  have PE := hide (plain_rest (l := l))
  have PN : Hid ((plainU l).length ≤ 200) := by show _ ≤ _; unfold plainU; rw [List.length_map]; exact hl.len
  have PT := hide (fun k => encT_len PS.out PN.out k)
  have EE : Hid (txt (encT (plainU l) (plainU l).length) = urlS l) := by show _ = _; unfold encT; rw [List.take_length]; rfl
  obtain ⟨pl, cl, rfl⟩ : ∃ p c, v = .slice p l.length c := by obtain ⟨p, c, e, _⟩ := hv; exact ⟨p, c, e⟩
  have p200 := PN.out
  have SZB := hide szB
  generalize plainU l = p at *
  generalize urlS l = RES at *
  clear hv hl PN hT szB
  go_enter Tryd.func13, Tryd.ntmps13
  go_wp2_with fail
  refine HP.out.mono ?_
  rintro e wp ⟨vp, rfl, op, bp⟩
  obtain ⟨q, cq, rfl⟩ := op.form
  have PF : Hid (OwnR (w.heap.size + 1) wp (.slice q p.length cq) p) := by show OwnR _ _ _ _; rw [← SZB.out]; exact op
  have h1 := HBN.out.below bp
  have BP := hide (ALB.out.trans (bp.mono ALB.out.size))
  have TP := hide (TW.out.below bp)
  clear op bp HP HBN TW ALB SZB
  go_wp2_with fail
  go_loopw [9] (fun iv wr => ∃ k : Nat, k ≤ p.length ∧ iv = .int .i64 k ∧ HoldsK w.heap.size w.heap.size (encT p k) wr ∧ Hid (Below w.heap.size w wr) ∧ Hid (OthK w.heap.size wp wr) ∧ Hid (TabsU w.heap.size wr)) (fun iv _ => p.length - (intOf iv).toNat)
  case atStart => exact ⟨0, Nat.zero_le _, rfl, h1, BP, OthK.refl _ _, TP⟩
  case round =>
    rename World => wr
    obtain ⟨k, hk, rfl, HB, BW, KW, TT⟩ := hrel
    clear BP TP h1
    by_cases g : k < p.length
    · have k1 : (k : Int) < (p.length : Int) := by omega
      have k0 : (0 : Int) ≤ (k : Int) := by omega
      obtain ⟨b, o, rfl, EA⟩ := (PF.out.oth KW.out (Nat.lt_succ_self _)).cellsAt k g
      have sz := PS.out _ (List.getElem_mem g)
      obtain ⟨pe1, pe2, pe3⟩ := PE.out _ (List.getElem_mem g)
      have L0 := PT.out k
      have s0 := formS_len p[k].name
      have s1 := formS_len p[k].val
      have H0 := hide (fun W => form_tabs p[k].name w.heap.size W (by omega))
      have H1 := hide (fun W => form_tabs p[k].val w.heap.size W (by omega))
      have a0 := EA.c0
      have a1 := EA.c1
      have a2 := EA.c2
      have a3 := EA.c3
      have a4 := EA.c4
      rw [pe1] at a2
      rw [pe2] at a3
      rw [pe3] at a4
      clear EA pe1 pe2 pe3
      by_cases kz : k = 0
      · have EX : Hid (encT p (k + 1) = (([] ++ (formS p[k].name).data.toList) ++ [(61 : UInt8)]) ++ (formS p[k].val).data.toList) := by
          show _ = _
          subst kz
          exact encT_first g
        have OE : encT p k = [] := by rw [kz]; rfl
        rw [OE] at HB
        have d0 : decide (0 < (k : Int)) = false := decide_eq_false (by omega)
        have d1 : ¬ 0 < k := by omega
        clear PS PT PF EE PE
        obtain ⟨sz0, sz1⟩ := sz
        clear L0 kz OE
        generalize formS p[k].name = f0 at *
        generalize formS p[k].val = f1 at *
        generalize p[k].name = t0 at *
        generalize p[k].val = t1 at *
        have sf0 : f0.size ≤ 6000000 := by omega
        have sf1 : f1.size ≤ 6000000 := by omega
        clear s0 s1 sz0 sz1
        have AL0 : Hid (Below wr.heap.size wr (wr.alloc (.cells #[.string t0, .string t1, .bool false, .string ⟨#[]⟩, .string ⟨#[]⟩] 31))) := (Below.refl _ wr).alloc (Nat.le_refl _) _
        have K1 := hide (Bk.new wr [.string t0, .string t1, .bool false, .string ⟨#[]⟩, .string ⟨#[]⟩] 31)
        have HB1 := hide (HB.below AL0.out)
        have TA := hide (TT.out.below AL0.out)
        have sw1 := Nat.le_trans BW.out.size AL0.out.size
        have BW1 := hide (BW.out.trans (AL0.out.mono BW.out.size))
        have KW1 := hide (KW.out.then AL0.out)
        have nb : wr.heap.size ≠ w.heap.size := by have := holdsK_lt HB; omega
        have tb := en_ty
        clear AL0 HB BW KW TT
        have hz := HB1.out
        have K2 := K1
        have TB := TA
        have sw := sw1
        have BW2 := BW1
        have KW2 := KW1
        clear K1 TA HB1 KW1 BW1 sw1
        have x0 := K2.out.cell 0 rfl
        go_wp2_with fail
        refine (H0.out _ TB.out).mono ?_
        rintro e w2 ⟨rfl, b2⟩
        have h2 := hz.below b2
        have m2 := Nat.le_trans sw b2.size
        have K3 := hide (K2.out.below b2)
        have T2 := hide (TB.out.below b2)
        have BW3 := hide (BW2.out.trans (b2.mono sw))
        have KW3 := hide (KW2.out.then b2)
        clear hz b2 K2 x0 H0 BW2 KW2 TB sw
        go_wp2_with fail
        refine (writeStringK w.heap.size w.heap.size [] f0 _ h2 (by simp only [List.length_nil]; omega) m2).mono ?_
        rintro e w3 ⟨rfl, h3, b3, k3⟩
        have K4 := hide (K3.out.oth k3 nb tb)
        have T3 := hide (T2.out.under b3)
        have m3 := Nat.le_trans m2 b3.size
        have BW4 := hide (BW3.out.trans b3)
        have KW4 := hide (KW3.out.trans k3)
        clear h2 b3 k3 K3 T2 m2 BW3 KW3
        go_wp2_with fail
        refine (writeByteK w.heap.size w.heap.size _ 61 _ h3 (by simp only [List.length_append, List.length_nil, Array.length_toList, ByteArray.size_data]; omega) m3).mono ?_
        rintro e w4 ⟨rfl, h4, b4, k4⟩
        have K5 := hide (K4.out.oth k4 nb tb)
        have T4 := hide (T3.out.under b4)
        have m4 := Nat.le_trans m3 b4.size
        have BW5 := hide (BW4.out.trans b4)
        have KW5 := hide (KW4.out.trans k4)
        have x1 := K5.out.cell 1 rfl
        clear h3 b4 k4 K4 T3 m3 BW4 KW4 K5
        go_wp2_with fail
        refine (H1.out _ T4.out).mono ?_
        rintro e w5 ⟨rfl, b5⟩
        have h5 := h4.below b5
        have m5 := Nat.le_trans m4 b5.size
        have T5 := hide (T4.out.below b5)
        have BW6 := hide (BW5.out.trans (b5.mono m4))
        have KW6 := hide (KW5.out.then b5)
        clear h4 b5 T4 x1 H1 BW5 KW5 m4
        go_wp2_with fail
        refine (writeStringK w.heap.size w.heap.size _ f1 _ h5 (by simp only [List.length_append, List.length_nil, List.length_cons, Array.length_toList, ByteArray.size_data]; omega) m5).mono ?_
        rintro e w6 ⟨rfl, h6, b6, k6⟩
        have T6 := hide (T5.out.under b6)
        have BW7 := hide (BW6.out.trans b6)
        have KW7 := hide (KW6.out.trans k6)
        rw [← EX.out] at h6
        clear h5 b6 k6 T5 BW6 KW6 m5
        go_wp2_with fail
        go_roundw
        case rel => exact ⟨k + 1, by omega, by go_num, h6, BW7, KW7, T6⟩
        case measure => simp [intOf]; omega
      · have EX : Hid (encT p (k + 1) = (((encT p k ++ [(38 : UInt8)]) ++ (formS p[k].name).data.toList) ++ [(61 : UInt8)]) ++ (formS p[k].val).data.toList) := encT_next g (by omega)
        have d0 : decide (0 < (k : Int)) = true := decide_eq_true (by omega)
        clear PS PT PF EE PE
        obtain ⟨sz0, sz1⟩ := sz
        generalize encT p k = C at *
        have LC : C.length ≤ 4000000000 := by omega
        generalize formS p[k].name = f0 at *
        generalize formS p[k].val = f1 at *
        generalize p[k].name = t0 at *
        generalize p[k].val = t1 at *
        have sf0 : f0.size ≤ 6000000 := by omega
        have sf1 : f1.size ≤ 6000000 := by omega
        clear s0 s1 sz0 sz1 L0
        have AL0 : Hid (Below wr.heap.size wr (wr.alloc (.cells #[.string t0, .string t1, .bool false, .string ⟨#[]⟩, .string ⟨#[]⟩] 31))) := (Below.refl _ wr).alloc (Nat.le_refl _) _
        have K1 := hide (Bk.new wr [.string t0, .string t1, .bool false, .string ⟨#[]⟩, .string ⟨#[]⟩] 31)
        have HB1 := hide (HB.below AL0.out)
        have TA := hide (TT.out.below AL0.out)
        have sw1 := Nat.le_trans BW.out.size AL0.out.size
        have BW1 := hide (BW.out.trans (AL0.out.mono BW.out.size))
        have KW1 := hide (KW.out.then AL0.out)
        have nb : wr.heap.size ≠ w.heap.size := by have := holdsK_lt HB; omega
        have tb := en_ty
        clear AL0 HB BW KW TT
        go_wp2_with fail
        refine (writeByteK w.heap.size w.heap.size C 38 _ HB1.out (by omega) sw1).mono ?_
        rintro e wz ⟨rfl, hz, bz, kz2⟩
        have K2 := hide (K1.out.oth kz2 nb tb)
        have TB := hide (TA.out.under bz)
        have sw := Nat.le_trans sw1 bz.size
        have BW2 := hide (BW1.out.trans bz)
        have KW2 := hide (KW1.out.trans kz2)
        clear K1 TA bz kz2 HB1 KW1 BW1 sw1
        have x0 := K2.out.cell 0 rfl
        go_wp2_with fail
        refine (H0.out _ TB.out).mono ?_
        rintro e w2 ⟨rfl, b2⟩
        have h2 := hz.below b2
        have m2 := Nat.le_trans sw b2.size
        have K3 := hide (K2.out.below b2)
        have T2 := hide (TB.out.below b2)
        have BW3 := hide (BW2.out.trans (b2.mono sw))
        have KW3 := hide (KW2.out.then b2)
        clear hz b2 K2 x0 H0 BW2 KW2 TB sw
        go_wp2_with fail
        refine (writeStringK w.heap.size w.heap.size (C ++ [38]) f0 _ h2 (by simp only [List.length_append, List.length_cons, List.length_nil]; omega) m2).mono ?_
        rintro e w3 ⟨rfl, h3, b3, k3⟩
        have K4 := hide (K3.out.oth k3 nb tb)
        have T3 := hide (T2.out.under b3)
        have m3 := Nat.le_trans m2 b3.size
        have BW4 := hide (BW3.out.trans b3)
        have KW4 := hide (KW3.out.trans k3)
        clear h2 b3 k3 K3 T2 m2 BW3 KW3
        go_wp2_with fail
        refine (writeByteK w.heap.size w.heap.size _ 61 _ h3 (by simp only [List.length_append, List.length_cons, List.length_nil, Array.length_toList, ByteArray.size_data]; omega) m3).mono ?_
        rintro e w4 ⟨rfl, h4, b4, k4⟩
        have K5 := hide (K4.out.oth k4 nb tb)
        have T4 := hide (T3.out.under b4)
        have m4 := Nat.le_trans m3 b4.size
        have BW5 := hide (BW4.out.trans b4)
        have KW5 := hide (KW4.out.trans k4)
        have x1 := K5.out.cell 1 rfl
        clear h3 b4 k4 K4 T3 m3 BW4 KW4 K5
        go_wp2_with fail
        refine (H1.out _ T4.out).mono ?_
        rintro e w5 ⟨rfl, b5⟩
        have h5 := h4.below b5
        have m5 := Nat.le_trans m4 b5.size
        have T5 := hide (T4.out.below b5)
        have BW6 := hide (BW5.out.trans (b5.mono m4))
        have KW6 := hide (KW5.out.then b5)
        clear h4 b5 T4 x1 H1 BW5 KW5 m4
        go_wp2_with fail
        refine (writeStringK w.heap.size w.heap.size _ f1 _ h5 (by simp only [List.length_append, List.length_cons, List.length_nil, Array.length_toList, ByteArray.size_data]; omega) m5).mono ?_
        rintro e w6 ⟨rfl, h6, b6, k6⟩
        have T6 := hide (T5.out.under b6)
        have BW7 := hide (BW6.out.trans b6)
        have KW7 := hide (KW6.out.trans k6)
        rw [← EX.out] at h6
        clear h5 b6 k6 T5 BW6 KW6 m5
        go_wp2_with fail
        go_roundw
        case rel => exact ⟨k + 1, by omega, by go_num, h6, BW7, KW7, T6⟩
        case measure => simp [intOf]; omega
    · obtain rfl : k = p.length := by omega
      clear PF PS PT PE
      go_wp2_with fail
      refine (builderTextK _ _ _ _ HB BW.out.size).mono ?_
      rintro e w2 ⟨rfl, h2, b2, _⟩
      have B2 := BW.out.trans b2
      rw [EE.out]
      clear EE
      go_wp2_with fail
      go_ret
      exact ⟨rfl, B2⟩
end Go.Proofs.YtfedeiipinamjaaDoor

namespace Go.Proofs.YtfedeiipinamjaaDoor
open Go.RowKit
set_option maxRecDepth 100000
def urL : List En := [⟨⟨#[97]⟩, ⟨#[49]⟩, false, ⟨#[]⟩, ⟨#[]⟩⟩, ⟨⟨#[98]⟩, ⟨#[120, 32, 121]⟩, false, ⟨#[]⟩, ⟨#[]⟩⟩]
theorem ur_enc : urlS urL = ⟨#[97, 61, 49, 38, 98, 61, 120, 43, 121]⟩ := by kernel_rfl
theorem ur_ok : EnsOK 10 urL := ⟨by decide, fun e q => by
  simp only [urL, List.mem_cons, List.not_mem_nil, or_false] at q
  rcases q with rfl | rfl <;> decide⟩
theorem files_formU {w : World} {v : Value} {l : List En} (h : FilesV w v l) : ∃ p c, v = .slice p l.length c := by
  obtain ⟨p, c, e, _⟩ := h; exact ⟨p, c, e⟩
set_option maxHeartbeats 8000000 in
theorem urWakes_any (w : World) (hT : UrTabs w) :
    Calls Tryd.prog 8 #[] w fun e w' => e = .returned (.bool true) ∧ Below w.heap.size w w' := by
  have AL : Hid (Below w.heap.size w (w.alloc (.cells #[.string ⟨#[97]⟩, .string ⟨#[49]⟩, .bool false, .string ⟨#[]⟩, .string ⟨#[]⟩, .string ⟨#[98]⟩, .string ⟨#[120, 32, 121]⟩, .bool false, .string ⟨#[]⟩, .string ⟨#[]⟩] 31))) := (Below.refl _ w).alloc (Nat.le_refl _) _
  have K := hide (Bk.new w [.string ⟨#[97]⟩, .string ⟨#[49]⟩, .bool false, .string ⟨#[]⟩, .string ⟨#[]⟩, .string ⟨#[98]⟩, .string ⟨#[120, 32, 121]⟩, .bool false, .string ⟨#[]⟩, .string ⟨#[]⟩] 31)
  have FV : Hid (FilesV (w.alloc (.cells #[.string ⟨#[97]⟩, .string ⟨#[49]⟩, .bool false, .string ⟨#[]⟩, .string ⟨#[]⟩, .string ⟨#[98]⟩, .string ⟨#[120, 32, 121]⟩, .bool false, .string ⟨#[]⟩, .string ⟨#[]⟩] 31)) (.slice (some ⟨w.heap.size, 0, none⟩) 2 2) urL) := ⟨_, 2, rfl, .inr ⟨w.heap.size, 0, rfl, fun i hi => by
    have hi : i < 2 := hi
    match i, hi with
    | 0, _ => exact ⟨K.out.cell 0 rfl, K.out.cell 1 rfl, K.out.cell 2 rfl, K.out.cell 3 rfl, K.out.cell 4 rfl⟩
    | 1, _ => exact ⟨K.out.cell 5 rfl, K.out.cell 6 rfl, K.out.cell 7 rfl, K.out.cell 8 rfl, K.out.cell 9 rfl⟩⟩⟩
  have HE := hide (urEncode_any 10 _ urL _ FV.out (by omega) ur_ok (hT.below AL.out))
  rw [ur_enc] at HE
  clear K FV hT
  go_enter Tryd.func8, Tryd.ntmps8
  go_wp2_with fail
  refine HE.out.mono ?_
  rintro e w1 ⟨rfl, b1⟩
  go_wp2_with fail
  go_ret
  exact ⟨rfl, chain AL.out b1⟩
end Go.Proofs.YtfedeiipinamjaaDoor

namespace Go.Proofs.YtfedeiipinamjaaDoor
open Go.RowKit
/-- What the rows of layer 19 list. -/
def urLaid : List (String × DataW Unit) := [("unicode/utf8.acceptRanges", Rows.laid_unicode_utf8_acceptRanges), ("counterfoil/escape.signs", Rows.laid_counterfoil_escape_signs), ("counterfoil/escape.digits", Rows.laid_counterfoil_escape_digits), ("unicode/utf8.first", Rows.laid_unicode_utf8_first)]
theorem urTabs_at {W : World} (hL : laidMet Tryd.prog urLaid W) (hsh : W.ShapedOpen Tryd.prog) : UrTabs W :=
  ⟨signs_of (Lib.laidMet.reads hL (.tail _ (.head _))), digs_of (Lib.laidMet.reads hL (.tail _ (.tail _ (.head _)))), max_of hsh⟩

end Go.Proofs.YtfedeiipinamjaaDoor
