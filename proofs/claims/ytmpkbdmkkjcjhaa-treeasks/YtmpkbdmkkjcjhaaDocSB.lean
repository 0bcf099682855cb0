/- The program's Text of layer 10: it answers by the function of 'DocR8', or an empty text; what lay in the world lies there still. Conditions: a document as it lies in the world; rows of at most 2^47 bytes. -/
import Derived.Test.YtmpkbdmkkjcjhaaDocS8
import Derived.Test.YtmpkbdmkkjcjhaaDocR8
import Derived.Test.YtmpkbdmkkjcjhaaBText
import Derived.Test.YtmpkbdmkkjcjhaaBString
namespace Go.Proofs.Ytmpkbdmkkjcjhaa
open Go.RowKit

def textQ (l : List Nd) (id : Int) : ByteArray := if hasN l id = true then textP l id else ⟨#[]⟩
theorem txt_app (s : List UInt8) (t : ByteArray) : txt (s ++ t.data.toList) = txt s ++ t := by
  apply ByteArray.ext
  show (s ++ t.data.toList).toArray = _
  rw [ByteArray.data_append]
  show (s ++ t.data.toList).toArray = s.toArray ++ t.data
  simp
set_option maxHeartbeats 4000000 in
set_option maxRecDepth 100000 in
theorem text_any (v : Value) (l : List Nd) (id : Int) (w : World) (hv : NodesV w v l) (hz : DocSz l) :
    Calls Try.prog 29 #[v, .int .i64 id] w fun e w' => e = .returned (.string (textQ l id)) ∧ Below w.heap.size w w' := by
  have HH := hide (isThere_any v l id w hv hz)
  obtain ⟨p, c, rfl, hv⟩ := hv
  have HV := hide hv
  clear hv hz
  cases q : hasN l id with
  | false =>
    rw [q] at HH
    have E : Hid (textQ l id = ⟨#[]⟩) := by show _ = _; unfold textQ; rw [q]; rfl
    clear q
    go_enter Try.func29, Try.ntmps29
    go_wp2_with fail
    refine HH.out.mono ?_
    rintro e w1 ⟨rfl, b1⟩
    go_wp2_with fail
    go_ret
    exact ⟨by rw [E.out]; rfl, b1⟩
  | true =>
    rw [q] at HH
    obtain ⟨hR, hi⟩ := has_is q
    obtain ⟨m0, rfl⟩ : ∃ m : Nat, id = (m : Int) := ⟨id.toNat, by have := hi.1; omega⟩
    have h0 : m0 < l.length := by have := hi.2; omega
    have E : Hid (textQ l (m0 : Int) = textF l l[m0].text l[m0].kids) := by show _ = _; unfold textQ; rw [q]; show textP l (m0 : Int) = _; unfold textP; rw [Int.toNat_natCast, nd_at h0]
    have hlen := hR.len.2
    obtain ⟨b, o, rfl, hcell⟩ : ∃ b o, p = some ⟨b, o, none⟩ ∧ ∀ i (h : i < l.length), ∃ va vk, NodeAt w b (o + i * 5) l[i] va vk := by
      rcases HV.out with t | t
      · rw [t] at h0; simp at h0
      · exact t
    have HC := hide hcell
    obtain ⟨va, vk, N0⟩ := hcell m0 h0
    have ts := text_small hR h0
    have kf := kids_few hR h0
    have KD := hide (fun x hx => hR.kid m0 h0 x hx)
    have TS := hide (fun i hi => text_small hR (i := i) hi)
    rw [nd_at h0] at ts kf KD
    obtain ⟨pk, ck, rfl, hks⟩ := N0.ks
    have HK := hide hks
    have NW : Hid (∀ W, Below w.heap.size w W → NodeAt W b (o + m0 * 5) l[m0] va (.slice pk l[m0].kids.length ck)) := fun W hb => N0.below hb
    have i0 : (0 : Int) ≤ (m0 : Int) := by omega
    have i1 : (m0 : Int) < (l.length : Int) := by omega
    clear q hi hR hcell HV N0 hks
    go_enter Try.func29, Try.ntmps29
    go_wp2_with fail
    refine HH.out.mono ?_
    rintro e w1 ⟨rfl, b1⟩
    have a1 := (NW.out w1 b1).text
    have ln : b < w1.heap.size := World.block_lt_of_cell? _ _ a1
    have lne : b ≠ w1.heap.size := by omega
    have HB0 := hide (HoldsB.fresh w1)
    have B1 := hide b1
    clear HH b1
    go_wp2_with fail
    have W1 : w1.heap.size ≤ (w1.alloc (.cells #[.pointer none, .slice none 0 0] 84)).heap.size := by simp
    refine (writeString w1.heap.size w1.heap.size [] l[m0].text _ HB0.out (by rw [List.length_nil]; omega) W1).mono ?_
    rintro e w2 ⟨rfl, hb2, b2⟩
    have HB2 := hide hb2
    rw [List.nil_append] at HB2
    have B2a : Hid (Below w1.heap.size w1 w2) := ((Below.refl _ w1).alloc (Nat.le_refl _) _).trans b2
    have B2 : Hid (Below w.heap.size w w2) := chain B1.out B2a.out
    have a4 := (NW.out w2 B2.out).kids
    clear hb2 b2 HB0 W1 a1 ln lne
    go_wp2_with fail
    go_loopw [24] (fun iv wr => ∃ (j : Nat) (s : List UInt8), j ≤ l[m0].kids.length ∧ iv = .int .i64 j ∧ s.length ≤ 4000 + 4000 * j ∧ Hid (HoldsB w1.heap.size w1.heap.size s wr) ∧ Hid (textF l (txt s) (l[m0].kids.drop j) = textQ l (m0 : Int)) ∧ Hid (Below w1.heap.size w1 wr)) (fun iv _ => l[m0].kids.length - (intOf iv).toNat)
    case atStart => exact ⟨0, l[m0].text.data.toList, Nat.zero_le _, rfl, by simpa using ts, HB2, by show _ = _; rw [List.drop_zero, txt_toList]; exact E.out.symm, B2a⟩
    case round =>
      rename World => wr
      obtain ⟨j, s, hj, rfl, hs, HBr, hc, BW⟩ := hrel
      clear HB2 B2a B2 a4
      have Bw := hide (chain B1.out BW.out)
      by_cases h : j < l[m0].kids.length
      · have j1 : (j : Int) < (l[m0].kids.length : Int) := by omega
        have j0 : (0 : Int) ≤ (j : Int) := by omega
        obtain ⟨bk, ok, rfl, hk⟩ : ∃ bk ok, pk = some ⟨bk, ok, none⟩ ∧ ∀ t (h : t < l[m0].kids.length), w.cell? ⟨bk, ok + t, none⟩ = some (.int .i64 l[m0].kids[t]) := by
          rcases HK.out with q | q
          · rw [q] at h; simp at h
          · exact q
        have a5 := cell_below (hk j h) Bw.out
        have hkd := KD.out l[m0].kids[j] (List.getElem_mem _)
        obtain ⟨m, em⟩ : ∃ m : Nat, l[m0].kids[j] = (m : Int) := ⟨l[m0].kids[j].toNat, by omega⟩
        have hm : m < l.length := by omega
        have hc1 := hc.out
        rw [List.drop_eq_getElem_cons h] at hc1
        have hc2 : textF l (txt s ++ (nd l l[m0].kids[j].toNat).text) (l[m0].kids.drop (j + 1)) = textQ l (m0 : Int) := hc1
        rw [em, Int.toNat_natCast, nd_at hm, ← txt_app] at hc2
        have tm := TS.out m hm
        rw [nd_at hm] at tm
        obtain ⟨vam, vkm, NM⟩ := HC.out m hm
        have a6 := (NM.below Bw.out).text
        rw [em] at a5
        have m0' : (0 : Int) ≤ (m : Int) := by omega
        have m1 : (m : Int) < (l.length : Int) := by omega
        have HC2 := hide hc2
        have HWS := hide (writeString w1.heap.size w1.heap.size s l[m].text wr HBr.out (by omega) BW.out.size)
        have SZ : Hid ((s ++ l[m].text.data.toList).length ≤ 4000 + 4000 * (j + 1)) := by
          show _ ≤ _
          rw [List.length_append]
          have : l[m].text.data.toList.length = l[m].text.size := by simp
          omega
        clear hk hkd em hc hc1 hc2 NM tm
        go_wp2_with fail
        refine HWS.out.mono ?_
        rintro e w3 ⟨rfl, hb3, b3⟩
        go_wp2_with fail
        go_roundw
        case rel => exact ⟨j + 1, _, by omega, by go_num, SZ.out, hb3, HC2, BW.out.trans b3⟩
        case measure => simp [intOf]; omega
      · obtain rfl : j = l[m0].kids.length := by omega
        have E2 : Hid (txt s = textQ l (m0 : Int)) := by
          have := hc.out
          rw [List.drop_length] at this
          exact this
        have HS := hide (builderText w1.heap.size w1.heap.size s wr HBr.out BW.out.size)
        clear hc h
        go_wp2_with fail
        refine HS.out.mono ?_
        rintro e w3 ⟨rfl, b3⟩
        go_wp2_with fail
        go_ret
        exact ⟨by rw [← E2.out]; rfl, chain B1.out (BW.out.trans b3)⟩

end Go.Proofs.Ytmpkbdmkkjcjhaa
