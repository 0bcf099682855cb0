/- Entries in a row of the call's own. The program's copied of layer 14. The program's copying of states. The program's Text of layer 10. -/
import Derived.Test.YtlppocdhfeejkaaGreatDoorJvv31
import Derived.Test.YtlppocdhfeejkaaGreatDoorJvv40

namespace Go.Proofs.YtlppocdhfeejkaaGreatDoor
open Go.RowKit
set_option maxRecDepth 100000
/-- The cells of a file. -/
def enCells (e : En) : List Value := [.string e.name, .string e.val, .bool e.file, .string e.fname, .string e.typ]
def cellsE (fs : List En) : List Value := fs.flatMap enCells
theorem cellsE_at : ∀ {fs : List En} {i : Nat} (h : i < fs.length) {j : Nat}, j < 5 → (cellsE fs)[i * 5 + j]? = (enCells fs[i])[j]?
  | e :: fs, 0, _, j, hj => by
    show (enCells e ++ cellsE fs)[0 * 5 + j]? = _
    rw [Nat.zero_mul, Nat.zero_add, List.getElem?_append_left (by show j < 5; exact hj)]
    rfl
  | e :: fs, i + 1, h, j, hj => by
    show (enCells e ++ cellsE fs)[(i + 1) * 5 + j]? = _
    rw [List.getElem?_append_right (by show 5 ≤ _; omega), show (i + 1) * 5 + j - (enCells e).length = i * 5 + j by show (i + 1) * 5 + j - 5 = _; omega]
    exact cellsE_at (fs := fs) (by simpa using h) hj
theorem files_own {w : World} {base : Nat} {v : Value} {fs : List En} (h : w.ownsRow base 59 5 v fs.length (cellsE fs)) : FilesV w v fs := by
  rcases h.2 with ⟨e, q⟩ | ⟨g, cap, cur, e, hb, hg, h1, h2, _⟩
  · have : fs = [] := List.eq_nil_of_length_eq_zero q
    subst this
    exact ⟨none, 0, e, .inl rfl⟩
  · refine ⟨_, cap, e, .inr ⟨g, 0, rfl, fun i hi => ?_⟩⟩
    subst e
    have C : ∀ j u, j < 5 → (enCells fs[i])[j]? = some u → w.cell? ⟨g, 0 + i * 5 + j, none⟩ = some u := fun j u hj hu => by
      rw [Nat.zero_add]
      exact owns_cell h rfl ((cellsE_at hi hj).trans hu)
    exact ⟨C 0 _ (by omega) rfl, C 1 _ (by omega) rfl, C 2 _ (by omega) rfl, C 3 _ (by omega) rfl, C 4 _ (by omega) rfl⟩
/-- Files in a row of the call's own. -/
def OwnR (B : Nat) (w : World) (v : Value) (fs : List En) : Prop := w.ownsRow B 59 5 v fs.length (cellsE fs)
theorem OwnR.files {B : Nat} {w : World} {v : Value} {fs : List En} (h : OwnR B w v fs) : FilesV w v fs := files_own h
theorem OwnR.below {B : Nat} {w w' : World} {v : Value} {fs : List En} (h : OwnR B w v fs) (hb : Below w.heap.size w w') : OwnR B w' v fs := owns_below h hb
theorem OwnR.mono {B B' : Nat} {w : World} {v : Value} {fs : List En} (h : OwnR B w v fs) (hb : B' ≤ B) : OwnR B' w v fs := by
  refine ⟨h.1, ?_⟩
  rcases h.2 with hn' | ⟨g, cap, cur, rfl, hb', rest⟩
  · exact .inl hn'
  · exact .inr ⟨g, cap, cur, rfl, by omega, rest⟩
theorem OwnR.at_ {B : Nat} {w : World} {v : Value} {fs : List En} (h : OwnR B w v fs) (g : Nat) (hg : v.ownBlock = some g) : B ≤ g ∧ g < w.heap.size := ⟨(h.lt g hg).1, (h.lt g hg).2⟩
theorem OwnR.set {B : Nat} {w : World} {v : Value} {fs : List En} (h : OwnR B w v fs) {m : Nat} (hm : ∀ g, v.ownBlock = some g → g ≠ m) (k : Nat) (u : Value) : OwnR B (w.setCell ⟨m, k, none⟩ u) v fs := by
  refine ⟨h.1, ?_⟩
  rcases h.2 with q | ⟨g, cap, cur, e1, h1, h2, h3⟩
  · exact .inl q
  · exact .inr ⟨g, cap, cur, e1, h1, (Below.heap_setCell _ _ _ _ (hm g (by rw [e1]; rfl))).trans h2, h3⟩
theorem OwnR.nil (B : Nat) (w : World) : OwnR B w (.slice none 0 0) [] := World.ownsRow_nil _ _ _ _
end Go.Proofs.YtlppocdhfeejkaaGreatDoor

namespace Go.Proofs.YtlppocdhfeejkaaGreatDoor
open Go.RowKit
set_option maxRecDepth 100000
theorem list_same : ∀ {l : List Value} {k : Nat} {u : Value}, l[k]? = some u → l.set k u = l
  | _ :: _, 0, _, h => by cases h; rfl
  | a :: l, k + 1, u, h => by show a :: l.set k u = _; rw [list_same (l := l) (k := k) h]
theorem Bk.same {w : World} {n : Nat} {cs : List Value} {t : TypeId} (h : Bk w n cs t) (k : Nat) {u : Value} (hu : cs[k]? = some u) : Bk (w.setCell ⟨n, k, none⟩ u) n cs t := by
  have := h.set k u
  rwa [list_same hu] at this
end Go.Proofs.YtlppocdhfeejkaaGreatDoor

namespace Go.Proofs.YtlppocdhfeejkaaGreatDoor
open Go.RowKit
set_option maxRecDepth 100000
/-- The files of states, each in a row of the call's own. -/
structure FsO (B : Nat) (w : World) (C : List Ct) (F : List Value) : Prop where
  len : F.length = C.length
  at_ : ∀ i (h : i < C.length), OwnR B w (fvAt F i) C[i].files
theorem FsO.below {B : Nat} {w w' : World} {C : List Ct} {F : List Value} (h : FsO B w C F) (hb : Below w.heap.size w w') : FsO B w' C F := ⟨h.len, fun i hi => (h.at_ i hi).below hb⟩
theorem FsO.files {B : Nat} {w : World} {C : List Ct} {F : List Value} (h : FsO B w C F) : FilesIn w C F := ⟨h.len, fun i hi => (h.at_ i hi).files⟩
theorem FsO.mono {B B' : Nat} {w : World} {C : List Ct} {F : List Value} (h : FsO B w C F) (hb : B' ≤ B) : FsO B' w C F := ⟨h.len, fun i hi => (h.at_ i hi).mono hb⟩
end Go.Proofs.YtlppocdhfeejkaaGreatDoor

namespace Go.Proofs.YtlppocdhfeejkaaGreatDoor
open Go.RowKit
def textQ (l : List Nd) (id : Int) : ByteArray := if hasN l id = true then textP l id else ⟨#[]⟩
theorem txt_app (s : List UInt8) (t : ByteArray) : txt (s ++ t.data.toList) = txt s ++ t := by
  apply ByteArray.ext
  show (s ++ t.data.toList).toArray = _
  rw [ByteArray.data_append]
  show (s ++ t.data.toList).toArray = s.toArray ++ t.data
  simp
set_option maxHeartbeats 4000000 in
set_option maxRecDepth 100000 in
theorem text_any (v : Value) (l : List Nd) (id : Int) (w : World) (hv : NodesV w v l) (hz : DocSz l) :
    Calls Tryz.prog 105 #[v, .int .i64 id] w fun e w' => e = .returned (.string (textQ l id)) ∧ Below w.heap.size w w' := by
  have HH := hide (isThere_any v l id w hv hz)
  obtain ⟨p, c, rfl, hv⟩ := hv
  have HV := hide hv
  clear hv hz
  cases q : hasN l id with
  | false =>
    rw [q] at HH
    have E : Hid (textQ l id = ⟨#[]⟩) := by show _ = _; unfold textQ; rw [q]; rfl
    clear q
    go_enter Tryz.func105, Tryz.ntmps105
    go_wp2_with fail
    refine HH.out.mono ?_
    rintro e w1 ⟨rfl, b1⟩
    go_wp2_with fail
    go_ret
    exact ⟨by rw [E.out]; rfl, b1⟩
  | true =>
    rw [q] at HH
    obtain ⟨hR, hi⟩ := has_is q
    obtain ⟨m0, rfl⟩ : ∃ m : Nat, id = (m : Int) := ⟨id.toNat, by have := hi.1; omega⟩
    have h0 : m0 < l.length := by have := hi.2; omega
    have E : Hid (textQ l (m0 : Int) = textF l l[m0].text l[m0].kids) := by show _ = _; unfold textQ; rw [q]; show textP l (m0 : Int) = _; unfold textP; rw [Int.toNat_natCast, nd_at h0]
    have hlen := hR.len.2
    obtain ⟨b, o, rfl, hcell⟩ : ∃ b o, p = some ⟨b, o, none⟩ ∧ ∀ i (h : i < l.length), ∃ va vk, NodeAt w b (o + i * 5) l[i] va vk := by
      rcases HV.out with t | t
      · rw [t] at h0; simp at h0
      · exact t
    have HC := hide hcell
    obtain ⟨va, vk, N0⟩ := hcell m0 h0
    have ts := text_small hR h0
    have kf := kids_few hR h0
    have KD := hide (fun x hx => hR.kid m0 h0 x hx)
    have TS := hide (fun i hi => text_small hR (i := i) hi)
    rw [nd_at h0] at ts kf KD
    obtain ⟨pk, ck, rfl, hks⟩ := N0.ks
    have HK := hide hks
    have NW : Hid (∀ W, Below w.heap.size w W → NodeAt W b (o + m0 * 5) l[m0] va (.slice pk l[m0].kids.length ck)) := fun W hb => N0.below hb
    have i0 : (0 : Int) ≤ (m0 : Int) := by omega
    have i1 : (m0 : Int) < (l.length : Int) := by omega
    clear q hi hR hcell HV N0 hks
    go_enter Tryz.func105, Tryz.ntmps105
    go_wp2_with fail
    refine HH.out.mono ?_
    rintro e w1 ⟨rfl, b1⟩
    have a1 := (NW.out w1 b1).text
    have ln : b < w1.heap.size := World.block_lt_of_cell? _ _ a1
    have lne : b ≠ w1.heap.size := by omega
    have HB0 := hide (HoldsB.fresh w1)
    have B1 := hide b1
    clear HH b1
    go_wp2_with fail
    have W1 : w1.heap.size ≤ (w1.alloc (.cells #[.pointer none, .slice none 0 0] 137)).heap.size := by simp
    refine (writeString w1.heap.size w1.heap.size [] l[m0].text _ HB0.out (by rw [List.length_nil]; omega) W1).mono ?_
    rintro e w2 ⟨rfl, hb2, b2⟩
    have HB2 := hide hb2
    rw [List.nil_append] at HB2
    have B2a : Hid (Below w1.heap.size w1 w2) := ((Below.refl _ w1).alloc (Nat.le_refl _) _).trans b2
    have B2 : Hid (Below w.heap.size w w2) := chain B1.out B2a.out
    have a4 := (NW.out w2 B2.out).kids
    clear hb2 b2 HB0 W1 a1 ln lne
    go_wp2_with fail
    go_loopw [24] (fun iv wr => ∃ (j : Nat) (s : List UInt8), j ≤ l[m0].kids.length ∧ iv = .int .i64 j ∧ s.length ≤ 4000 + 4000 * j ∧ Hid (HoldsB w1.heap.size w1.heap.size s wr) ∧ Hid (textF l (txt s) (l[m0].kids.drop j) = textQ l (m0 : Int)) ∧ Hid (Below w1.heap.size w1 wr)) (fun iv _ => l[m0].kids.length - (intOf iv).toNat)
    case atStart => exact ⟨0, l[m0].text.data.toList, Nat.zero_le _, rfl, by simpa using ts, HB2, by show _ = _; rw [List.drop_zero, txt_toList]; exact E.out.symm, B2a⟩
    case round =>
      rename World => wr
      obtain ⟨j, s, hj, rfl, hs, HBr, hc, BW⟩ := hrel
      clear HB2 B2a B2 a4
      have Bw := hide (chain B1.out BW.out)
      by_cases h : j < l[m0].kids.length
      · have j1 : (j : Int) < (l[m0].kids.length : Int) := by omega
        have j0 : (0 : Int) ≤ (j : Int) := by omega
        obtain ⟨bk, ok, rfl, hk⟩ : ∃ bk ok, pk = some ⟨bk, ok, none⟩ ∧ ∀ t (h : t < l[m0].kids.length), w.cell? ⟨bk, ok + t, none⟩ = some (.int .i64 l[m0].kids[t]) := by
          rcases HK.out with q | q
          · rw [q] at h; simp at h
          · exact q
        have a5 := cell_below (hk j h) Bw.out
        have hkd := KD.out l[m0].kids[j] (List.getElem_mem _)
        obtain ⟨m, em⟩ : ∃ m : Nat, l[m0].kids[j] = (m : Int) := ⟨l[m0].kids[j].toNat, by omega⟩
        have hm : m < l.length := by omega
        have hc1 := hc.out
        rw [List.drop_eq_getElem_cons h] at hc1
        have hc2 : textF l (txt s ++ (nd l l[m0].kids[j].toNat).text) (l[m0].kids.drop (j + 1)) = textQ l (m0 : Int) := hc1
        rw [em, Int.toNat_natCast, nd_at hm, ← txt_app] at hc2
        have tm := TS.out m hm
        rw [nd_at hm] at tm
        obtain ⟨vam, vkm, NM⟩ := HC.out m hm
        have a6 := (NM.below Bw.out).text
        rw [em] at a5
        have m0' : (0 : Int) ≤ (m : Int) := by omega
        have m1 : (m : Int) < (l.length : Int) := by omega
        have HC2 := hide hc2
        have HWS := hide (writeString w1.heap.size w1.heap.size s l[m].text wr HBr.out (by omega) BW.out.size)
        have SZ : Hid ((s ++ l[m].text.data.toList).length ≤ 4000 + 4000 * (j + 1)) := by
          show _ ≤ _
          rw [List.length_append]
          have : l[m].text.data.toList.length = l[m].text.size := by simp
          omega
        clear hk hkd em hc hc1 hc2 NM tm
        go_wp2_with fail
        refine HWS.out.mono ?_
        rintro e w3 ⟨rfl, hb3, b3⟩
        go_wp2_with fail
        go_roundw
        case rel => exact ⟨j + 1, _, by omega, by go_num, SZ.out, hb3, HC2, BW.out.trans b3⟩
        case measure => simp [intOf]; omega
      · obtain rfl : j = l[m0].kids.length := by omega
        have E2 : Hid (txt s = textQ l (m0 : Int)) := by
          have := hc.out
          rw [List.drop_length] at this
          exact this
        have HS := hide (builderText w1.heap.size w1.heap.size s wr HBr.out BW.out.size)
        clear hc h
        go_wp2_with fail
        refine HS.out.mono ?_
        rintro e w3 ⟨rfl, b3⟩
        go_wp2_with fail
        go_ret
        exact ⟨by rw [← E2.out]; rfl, chain B1.out (BW.out.trans b3)⟩

end Go.Proofs.YtlppocdhfeejkaaGreatDoor
