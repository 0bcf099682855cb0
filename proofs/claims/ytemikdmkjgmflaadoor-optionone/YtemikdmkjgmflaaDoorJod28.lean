/- The document's Copied of layer 10. The example of layer 15's statements, as their own function lays it in the world. Stage 15's wakes and its law OptionLists, walked. -/
import Derived.Test.YtemikdmkjgmflaaDoorJod26
import Derived.Test.YtemikdmkjgmflaaDoorJod27
import Derived.Deep.DrawnRows

namespace Go.Proofs.YtemikdmkjgmflaaDoor
open Go.RowKit
set_option maxRecDepth 100000
set_option maxHeartbeats 4000000 in
set_option maxRecDepth 100000 in
theorem refCopied_any (v : Value) (l : List Nd) (w : World) (hv : NodesV w v l) (hz : DocSz l) :
    Calls Tryd.prog 22 #[v] w fun e w' => ∃ v' L, e = .returned v' ∧ OwnD w.heap.size w' v' L ∧ ndsOf L = l ∧ Below w.heap.size w w' := by
  obtain ⟨p, c, rfl, hv⟩ := hv
  have hlen := hz.len
  have SZ := hide hz
  clear hz
  generalize hB : w.heap.size = B
  go_enter Tryd.func22, Tryd.ntmps22
  go_wp2_with fail
  go_loopw [3, 4] (fun ov iv wr => ∃ (j : Nat) (L : List NdV), j ≤ l.length ∧ iv = .int .i64 j ∧ Hid (OwnD B wr ov L ∧ ndsOf L = l.take j ∧ Below B w wr)) (fun _ iv _ => l.length - (intOf iv).toNat)
  case atStart => exact ⟨0, [], Nat.zero_le _, rfl, ⟨World.ownsRow_nil w B _ 5, (fun _ q => by cases q), (fun _ q => by cases q), by simp [Value.ownBlock]⟩, by simp [ndsOf], Below.refl _ _⟩
  case round =>
    rename World => wr
    obtain ⟨j, L, hj, rfl, HD⟩ := hrel
    by_cases h : j < l.length
    · have i1 : (j : Int) < (l.length : Int) := by omega
      have i0 : (0 : Int) ≤ (j : Int) := by omega
      rcases hv with hv | ⟨b, o, rfl, hv⟩
      · rw [hv] at h; simp at h
      obtain ⟨va, vk, N0⟩ := hv j h
      have N1 : NodeAt wr b (o + j * 5) l[j] va vk := N0.below (by rw [hB]; exact HD.out.2.2)
      have Bw : B ≤ wr.heap.size := by have := HD.out.2.2.size; omega
      have bl : b < wr.heap.size := World.block_lt_of_cell? _ _ N1.name
      have bn : b ≠ wr.heap.size := by omega
      have bn2 : ¬ wr.heap.size = b := by omega
      have a0 := N1.name
      have a1 := N1.text
      have a3 := N1.parent
      have DB : Hid (∀ w', Chg [wr.heap.size] wr w' → NodeAt w' b (o + j * 5) l[j] va vk) := fun w' hc => N1.below (hc.none (fun k q => by rw [List.mem_singleton.1 q]; exact Nat.le_refl _))
      have HZ := hide (SZ.out.nds l[j] (List.getElem_mem _))
      have LL : Hid (L.length = j) := by
        show _ = _
        have := congrArg List.length HD.out.2.1
        rw [ndsOf_len, List.length_take] at this
        omega
      clear N0 N1 hv SZ
      obtain ⟨y, hy⟩ : ∃ y, Hid (l[j] = y) := ⟨l[j], show l[j] = l[j] from rfl⟩
      rw [hy.out] at a0 a1 a3 DB HZ
      obtain ⟨iA, hA0, hA1, hA2, hA3⟩ := info_parts infoA
      obtain ⟨iI, hI0, hI1, hI2, hI3⟩ := info_parts infoI
      obtain ⟨iN, hN0, hN1, hN2, hN3⟩ := info_parts infoN
      have za := HZ.out.attrs
      have zk := HZ.out.kids
      have OA := cellsA_one y.attrs
      have OK := cellsI_one y.kids
      obtain ⟨y0, hy0⟩ : ∃ y0, Hid (y.name = y0) := ⟨y.name, show y.name = y.name from rfl⟩
      obtain ⟨y1, hy1⟩ : ∃ y1, Hid (y.text = y1) := ⟨y.text, show y.text = y.text from rfl⟩
      obtain ⟨y3, hy3⟩ : ∃ y3, Hid (y.parent = y3) := ⟨y.parent, show y.parent = y.parent from rfl⟩
      rw [hy0.out] at a0
      rw [hy1.out] at a1
      rw [hy3.out] at a3
      go_wp2_with fail
      go_region
      generalize hw1 : (wr.alloc (.cells #[Value.string y0, Value.string y1, Value.slice none 0 0, Value.int IntKind.i64 y3, Value.slice none 0 0] 43)).drew = w1
      have NB1 : Hid (NB w1 wr.heap.size [Value.string y0, Value.string y1, Value.slice none 0 0, Value.int IntKind.i64 y3, Value.slice none 0 0] 43) := by rw [← hw1]; exact (NB.new wr _ _).drew
      have C1 : Hid (Chg [wr.heap.size] wr w1) := by rw [← hw1]; exact ((Chg.alloc wr _).trans (Chg.drew _)).nil
      have s1 : Hid (w1.heap.size = wr.heap.size + 1) := by rw [← hw1]; show (wr.alloc _).heap.size = _; simp
      clear hw1 a0 a1 a3
      have b0 := NB1.out.cell 2 rfl
      have b1 := NB1.out.free 2
      have A2 := (DB.out w1 C1.out).attrs
      have RA := hide (DB.out w1 C1.out).at_.raw
      have HB1 : Hid (B ≤ w1.heap.size) := by show _ ≤ _; rw [s1.out]; omega
      have ln := NB1.out.lt
      go_wp2_with fail
      go_region_law ((refine step_append_raw (by rfl) _ _ _ (by rfl) B 76 iA _ 2 32 Tryd.underlying40 hA0 hA1 hA2 hA3 rfl (by omega) (.slice none 0 0) 0 [] (by rfl) (World.ownsRow_nil _ _ _ _) va y.attrs.length (cellsA y.attrs) (by rfl) RA.out OA (by unfold maxLen; omega) (by omega) HB1.out ?_; intro q2 c2 w2 own2 gr2 at2; have k0 := World.grownBy.cell gr2 (a := ⟨wr.heap.size, 2, none⟩) b0 (by simp [Value.ownBlock]); have k1 := (World.grownBy.frozen_far gr2 ⟨wr.heap.size, 2, none⟩ ln (by simp [Value.ownBlock])).trans b1))
      all_goals
        rw [Nat.zero_add] at own2 at2
        rw [List.nil_append] at own2
        have C2 : Hid (Chg [wr.heap.size] w1 w2) := ((Chg.drew w1).trans (Chg.of_grown gr2)).nil
        have B2 : Hid (∀ k, (Value.slice q2 y.attrs.length c2).ownBlock = some k → k = wr.heap.size + 1 ∧ k < w2.heap.size) := by
          intro k hk
          rcases at2 with q | q
          · rw [q] at hk; cases hk
          · refine ⟨?_, (own2.lt k hk).2⟩
            rw [q] at hk
            have : w1.heap.size = k := Option.some.inj hk
            have := s1.out
            omega
        have N2 : Hid (NB w2 wr.heap.size [Value.string y0, Value.string y1, Value.slice none 0 0, Value.int IntKind.i64 y3, Value.slice none 0 0] 43) := NB1.out.chg ((Chg.drew w1).trans (Chg.of_grown gr2)) (by simp)
        have O2 := hide own2
        clear own2 at2 gr2 k0 k1 b0 b1 A2 RA HB1 ln
        generalize hw3 : w2.setCell ⟨wr.heap.size, 2, none⟩ (Value.slice q2 y.attrs.length c2) = w3
        have NB3 : Hid (NB w3 wr.heap.size [Value.string y0, Value.string y1, Value.slice q2 y.attrs.length c2, Value.int IntKind.i64 y3, Value.slice none 0 0] 43) := by rw [← hw3]; exact N2.out.set 2 _
        have C3' : Hid (Chg [wr.heap.size] w2 w3) := by rw [← hw3]; exact Chg.setB w2 _ _ _
        have C3 : Hid (Chg [wr.heap.size] wr w3) := C1.out.trans (C2.out.trans C3'.out)
        have O3 : Hid (AttrsO B w3 (Value.slice q2 y.attrs.length c2) y.attrs) := owns_kept O2.out C3'.out (fun k hk q => by
          have := (B2.out k hk).1
          have := List.mem_singleton.1 q
          omega)
        have B3 : Hid (∀ k, (Value.slice q2 y.attrs.length c2).ownBlock = some k → k = wr.heap.size + 1 ∧ k < w3.heap.size) := fun k hk => ⟨(B2.out k hk).1, Nat.lt_of_lt_of_le (B2.out k hk).2 C3'.out.size⟩
        clear hw3 N2 NB1 O2 B2 C3' C2 C1 s1
        have b0 := NB3.out.cell 4 rfl
        have b1 := NB3.out.free 4
        have A4 := (DB.out w3 C3.out).kids
        have RK := hide (DB.out w3 C3.out).ks.raw
        have ln := NB3.out.lt
        have HB3 : Hid (B ≤ w3.heap.size) := by show _ ≤ _; omega
        go_wp2_with fail
        go_region_law ((refine step_append_raw (by rfl) _ _ _ (by rfl) B 3 iI _ 1 8 Tryd.underlying41 hI0 hI1 hI2 hI3 rfl (by omega) (.slice none 0 0) 0 [] (by rfl) (World.ownsRow_nil _ _ _ _) vk y.kids.length (cellsI y.kids) (by rfl) RK.out OK (by unfold maxLen; omega) (by omega) HB3.out ?_; intro q4 c4 w4 own4 gr4 at4; have k0 := World.grownBy.cell gr4 (a := ⟨wr.heap.size, 4, none⟩) b0 (by simp [Value.ownBlock]); have k1 := (World.grownBy.frozen_far gr4 ⟨wr.heap.size, 4, none⟩ ln (by simp [Value.ownBlock])).trans b1))
        all_goals
          rw [Nat.zero_add] at own4 at4
          rw [List.nil_append] at own4
          have C4 : Hid (Chg [wr.heap.size] w3 w4) := ((Chg.drew w3).trans (Chg.of_grown gr4)).nil
          have B4 : Hid (∀ k, (Value.slice q4 y.kids.length c4).ownBlock = some k → w3.heap.size ≤ k ∧ k < w4.heap.size) := by
            intro k hk
            rcases at4 with q | q
            · rw [q] at hk; cases hk
            · refine ⟨?_, (own4.lt k hk).2⟩
              rw [q] at hk
              exact Nat.le_of_eq (Option.some.inj hk)
          have N4 : Hid (NB w4 wr.heap.size [Value.string y0, Value.string y1, Value.slice q2 y.attrs.length c2, Value.int IntKind.i64 y3, Value.slice none 0 0] 43) := NB3.out.chg ((Chg.drew w3).trans (Chg.of_grown gr4)) (by simp)
          have O4 := hide own4
          have O3' : Hid (AttrsO B w4 (Value.slice q2 y.attrs.length c2) y.attrs) := owns_kept O3.out ((Chg.drew w3).trans (Chg.of_grown gr4)) (fun k hk q => by simp at q)
          clear own4 at4 gr4 k0 k1 b0 b1 A4 RK HB3
          generalize hw5 : w4.setCell ⟨wr.heap.size, 4, none⟩ (Value.slice q4 y.kids.length c4) = w5
          have NB5 : Hid (NB w5 wr.heap.size [Value.string y0, Value.string y1, Value.slice q2 y.attrs.length c2, Value.int IntKind.i64 y3, Value.slice q4 y.kids.length c4] 43) := by rw [← hw5]; exact N4.out.set 4 _
          have C5' : Hid (Chg [wr.heap.size] w4 w5) := by rw [← hw5]; exact Chg.setB w4 _ _ _
          have C5 : Hid (Chg [wr.heap.size] wr w5) := C3.out.trans (C4.out.trans C5'.out)
          have O5a : Hid (AttrsO B w5 (Value.slice q2 y.attrs.length c2) y.attrs) := owns_kept O3'.out C5'.out (fun k hk q => by
            have := (B3.out k hk).1
            have := List.mem_singleton.1 q
            omega)
          have O5k : Hid (KidsO B w5 (Value.slice q4 y.kids.length c4) y.kids) := owns_kept O4.out C5'.out (fun k hk q => by
            have := (B4.out k hk).1
            have := List.mem_singleton.1 q
            omega)
          have B5 : Hid (∀ k, (Value.slice q4 y.kids.length c4).ownBlock = some k → w3.heap.size ≤ k ∧ k < w5.heap.size) := fun k hk => ⟨(B4.out k hk).1, Nat.lt_of_lt_of_le (B4.out k hk).2 C5'.out.size⟩
          have B5a : Hid (∀ k, (Value.slice q2 y.attrs.length c2).ownBlock = some k → k = wr.heap.size + 1 ∧ k < w3.heap.size ∧ k < w5.heap.size) := fun k hk => ⟨(B3.out k hk).1, (B3.out k hk).2, Nat.lt_of_lt_of_le (B3.out k hk).2 (Nat.le_trans C4.out.size C5'.out.size)⟩
          clear hw5 N4 NB3 O4 O3 O3' B3 B4 C5' C4 C3
          have e0 := NB5.out.cell 0 rfl
          have e1 := NB5.out.cell 1 rfl
          have e2 := NB5.out.cell 2 rfl
          have e3 := NB5.out.cell 3 rfl
          have e4 := NB5.out.cell 4 rfl
          have ln5 := NB5.out.lt
          have C6 : Hid (Chg [wr.heap.size] wr (w5.alloc (.cells #[Value.string y0, Value.string y1, Value.slice q2 y.attrs.length c2, Value.int IntKind.i64 y3, Value.slice q4 y.kids.length c4] 43))) := C5.out.trans (Chg.alloc _ _).nil
          have R6 := hide ((NB.new w5 [Value.string y0, Value.string y1, Value.slice q2 y.attrs.length c2, Value.int IntKind.i64 y3, Value.slice q4 y.kids.length c4] 43).raw 1 5 rfl 1)
          have W6 : Hid (B ≤ (w5.alloc (.cells #[Value.string y0, Value.string y1, Value.slice q2 y.attrs.length c2, Value.int IntKind.i64 y3, Value.slice q4 y.kids.length c4] 43)).heap.size) := by show _ ≤ _; simp; omega
          have OW := hide (owns_kept HD.out.1.row C6.out (fun k hk q => by
            have := (HD.out.1.row.lt k hk).2
            have := List.mem_singleton.1 q
            omega))
          have HL := LL.out
          go_wp2_with (at_builtin; refine wpList_append_raw rfl _ _ _ rfl B 43 iN _ 5 88 Tryd.underlying22 hN0 hN1 hN2 hN3 rfl (by omega) _ L.length (cellsV L) rfl OW.out _ 1 _ rfl R6.out (by simp [Value.oneCell']) (by unfold maxLen; omega) (by omega) W6.out ?_; intro q6 c6 w6 own6 gr6 at6)
          rw [LL.out] at own6 at6
          have G6 : Hid (Chg u3.ownBlock.toList w5 w6) := (Chg.alloc _ _).nil.trans (Chg.of_grown gr6)
          have U3 : Hid (∀ k, u3.ownBlock = some k → k < wr.heap.size) := fun k hk => (HD.out.1.row.lt k hk).2
          have H5 : Hid (wr.heap.size ≤ w5.heap.size) := C5.out.size
          have A6 : Hid ((Value.slice q6 (j + 1) c6).ownBlock = u3.ownBlock ∨ (Value.slice q6 (j + 1) c6).ownBlock = some (w5.heap.size + 1)) := by
            rcases at6 with q | q
            · exact .inl q
            · exact .inr (by rw [q]; simp)
          have H3 : Hid (wr.heap.size < w3.heap.size) := ln
          go_roundw
          case rel =>
            refine ⟨j + 1, L ++ [⟨y, .slice q2 y.attrs.length c2, .slice q4 y.kids.length c4⟩], by omega, by go_num, ?_⟩
            refine ⟨HD.out.1.push (((C5.out.mono (fun k q r => by have := List.mem_singleton.1 q; omega))).trans G6.out) ?_ ?_ ?_ ?_ ?_ ?_, ?_, ?_⟩
            · rw [LL.out]
              show w6.ownsRow B _ 5 _ (j + 1) (cellsV L ++ [.string y.name, .string y.text, _, .int .i64 y.parent, _])
              rw [hy0.out, hy1.out, hy3.out]; exact own6
            · exact owns_kept O5a.out G6.out (fun k hk q => by have := (B5a.out k hk).1; have := U3.out k (opt_mem.1 q); omega)
            · exact owns_kept O5k.out G6.out (fun k hk q => by have := (B5.out k hk).1; have := U3.out k (opt_mem.1 q); have := H3.out; omega)
            · show ((Value.slice q2 y.attrs.length c2).ownBlock.toList ++ (Value.slice q4 y.kids.length c4).ownBlock.toList).Nodup
              rw [List.nodup_append]
              refine ⟨by cases (Value.slice q2 y.attrs.length c2).ownBlock <;> simp, by cases (Value.slice q4 y.kids.length c4).ownBlock <;> simp, fun a ha b hb e => ?_⟩
              have := (B5a.out a (opt_mem.1 ha)).2.1
              have := (B5.out b (opt_mem.1 hb)).1
              omega
            · intro k hk
              have hk : k ∈ (Value.slice q2 y.attrs.length c2).ownBlock.toList ++ (Value.slice q4 y.kids.length c4).ownBlock.toList := hk
              have M : wr.heap.size ≤ k ∧ k < w5.heap.size := by
                have := H3.out
                rcases List.mem_append.1 hk with q | q
                · have := B5a.out k (opt_mem.1 q); omega
                · have := B5.out k (opt_mem.1 q); omega
              refine ⟨M.1, fun e => ?_⟩
              rcases A6.out with q | q
              · rw [q] at e; have := U3.out k e; omega
              · rw [q] at e; have := Option.some.inj e; omega
            · rcases A6.out with q | q
              · exact .inl q
              · exact .inr (fun k hk => by rw [q] at hk; have := Option.some.inj hk; have := H5.out; omega)
            · unfold ndsOf
              rw [List.map_append]
              have e := HD.out.2.1
              unfold ndsOf at e
              rw [e, List.take_succ_eq_append_getElem h, hy.out]
              rfl
            · exact HD.out.2.2.trans (((C5.out.mono (S' := u3.ownBlock.toList) (fun k q r => by have := List.mem_singleton.1 q; omega)).trans G6.out).below Bw (fun k q => (HD.out.1.row.lt k (opt_mem.1 q)).1))
          case measure => simp [intOf]; omega
    · obtain rfl : j = l.length := by omega
      clear hv h SZ
      go_wp2_with fail
      go_ret
      refine ⟨_, L, rfl, HD.out.1, ?_, HD.out.2.2⟩
      rw [HD.out.2.1, List.take_length]
end Go.Proofs.YtemikdmkjgmflaaDoor

namespace Go.Proofs.YtemikdmkjgmflaaDoor
open Go.RowKit
set_option maxRecDepth 100000
def exF : List Value := [.slice none 0 0, .slice none 0 0, .slice none 0 0, .slice none 0 0]
theorem ex_made : madeCells (Value.agg #[.string ⟨#[]⟩, .bool false, .bool false, .bool false, .bool false, .bool false, .bool false, .bool false, .string ⟨#[]⟩, .slice none 0 0]).cells 40 = (cellsC exC exF).toArray := by kernel_rfl
theorem ints_nil (w : World) : IntsV w (.slice none 0 0) [] := ⟨none, 0, rfl, .inl rfl⟩
theorem attrs_nilO (w : World) : AttrsV w (.slice none 0 0) [] := ⟨none, 0, rfl, .inl rfl⟩
theorem cap_nilO : CapOK (.slice none 0 0) := fun p n c e => by cases e; exact Nat.le_refl _
/-- A row of states in a block. -/
theorem cts_bk {w : World} {b k : Nat} {C : List Ct} {F : List Value} (h : Bk w b (cellsC C F) 48) (hF : FilesIn w C F) : CtsF w (.slice (some ⟨b, 0, none⟩) C.length k) C F := by
  refine ⟨hF, _, k, rfl, .inr ⟨b, 0, rfl, fun i hi j u hu => ?_⟩⟩
  have hj : j < 10 := (List.getElem?_eq_some_iff.1 hu).1
  rw [Nat.zero_add]
  exact h.cell _ ((cellsC_at hF.len hi hj).trans hu)
theorem ex_files (w : World) : FilesIn w exC exF := ⟨rfl, fun i hi => by
  match i, hi with
  | 0, _ => exact files_nil w
  | 1, _ => exact files_nil w
  | 2, _ => exact files_nil w
  | 3, _ => exact files_nil w⟩
theorem ex_doc {w : World} {b1 b2 b3 b4 : Nat} (h1 : Bk w b1 [.int .i64 1] 3) (h2 : Bk w b2 [.int .i64 2, .int .i64 3] 3) (h3 : Bk w b3 [.string ⟨#[104, 116, 109, 108]⟩, .string ⟨#[]⟩, .slice none 0 0, .int .i64 (-1), .slice (some ⟨b1, 0, none⟩) 1 1, .string ⟨#[115, 101, 108, 101, 99, 116]⟩, .string ⟨#[]⟩, .slice none 0 0, .int .i64 0, .slice (some ⟨b2, 0, none⟩) 2 2, .string ⟨#[111, 112, 116, 105, 111, 110]⟩, .string ⟨#[]⟩, .slice none 0 0, .int .i64 1, .slice none 0 0, .string ⟨#[111, 112, 116, 105, 111, 110]⟩, .string ⟨#[]⟩, .slice none 0 0, .int .i64 1, .slice none 0 0] 43) (h4 : Bk w b4 (cellsC exC exF) 48) :
    DocV w (.slice (some ⟨b3, 0, none⟩) 4 4) (.slice (some ⟨b4, 0, none⟩) 4 4) exL exC := by
  refine ⟨⟨_, 4, rfl, .inr ⟨b3, 0, rfl, fun i hi => ?_⟩⟩, ⟨exF, cts_bk h4 (ex_files w)⟩⟩
  match i, hi with
  | 0, _ => exact ⟨_, _, ⟨h3.cell 0 rfl, h3.cell 1 rfl, h3.cell 2 rfl, h3.cell 3 rfl, h3.cell 4 rfl, attrs_nilO w, ⟨_, 1, rfl, .inr ⟨b1, 0, rfl, fun j hj => by
      obtain rfl : j = 0 := by have : j < 1 := hj; omega
      exact h1.cell 0 rfl⟩⟩, cap_nilO⟩⟩
  | 1, _ => exact ⟨_, _, ⟨h3.cell 5 rfl, h3.cell 6 rfl, h3.cell 7 rfl, h3.cell 8 rfl, h3.cell 9 rfl, attrs_nilO w, ⟨_, 2, rfl, .inr ⟨b2, 0, rfl, fun j hj => by
      match j, hj with
      | 0, _ => exact h2.cell 0 rfl
      | 1, _ => exact h2.cell 1 rfl⟩⟩, cap_nilO⟩⟩
  | 2, _ => exact ⟨_, _, ⟨h3.cell 10 rfl, h3.cell 11 rfl, h3.cell 12 rfl, h3.cell 13 rfl, h3.cell 14 rfl, attrs_nilO w, ints_nil w, cap_nilO⟩⟩
  | 3, _ => exact ⟨_, _, ⟨h3.cell 15 rfl, h3.cell 16 rfl, h3.cell 17 rfl, h3.cell 18 rfl, h3.cell 19 rfl, attrs_nilO w, ints_nil w, cap_nilO⟩⟩
theorem bk_next {w : World} {o : Obj} {n : Nat} (h : w.heap.size = n) : (w.alloc o).heap.size = n + 1 := by rw [← h]; simp
theorem Bk.at' {w : World} {cs : List Value} {t : TypeId} {n : Nat} (h : w.heap.size = n) : Bk (w.alloc (.cells cs.toArray t)) n cs t := by rw [← h]; exact Bk.new w cs t
/-- The example's world: its blocks one behind the other. -/
theorem ex_world (w : World) (u1 u2 : Value) : Bk (((((w.alloc (.cells #[u1, u2] 25)).alloc (.cells #[.int .i64 1] 3)).alloc (.cells #[.int .i64 2, .int .i64 3] 3)).alloc (.cells #[.string ⟨#[104, 116, 109, 108]⟩, .string ⟨#[]⟩, .slice none 0 0, .int .i64 (-1), .slice (some ⟨w.heap.size + 1, 0, none⟩) 1 1, .string ⟨#[115, 101, 108, 101, 99, 116]⟩, .string ⟨#[]⟩, .slice none 0 0, .int .i64 0, .slice (some ⟨w.heap.size + 1 + 1, 0, none⟩) 2 2, .string ⟨#[111, 112, 116, 105, 111, 110]⟩, .string ⟨#[]⟩, .slice none 0 0, .int .i64 1, .slice none 0 0, .string ⟨#[111, 112, 116, 105, 111, 110]⟩, .string ⟨#[]⟩, .slice none 0 0, .int .i64 1, .slice none 0 0] 43)).alloc (.cells (cellsC exC exF).toArray 48)) w.heap.size [u1, u2] 25 ∧ Bk (((((w.alloc (.cells #[u1, u2] 25)).alloc (.cells #[.int .i64 1] 3)).alloc (.cells #[.int .i64 2, .int .i64 3] 3)).alloc (.cells #[.string ⟨#[104, 116, 109, 108]⟩, .string ⟨#[]⟩, .slice none 0 0, .int .i64 (-1), .slice (some ⟨w.heap.size + 1, 0, none⟩) 1 1, .string ⟨#[115, 101, 108, 101, 99, 116]⟩, .string ⟨#[]⟩, .slice none 0 0, .int .i64 0, .slice (some ⟨w.heap.size + 1 + 1, 0, none⟩) 2 2, .string ⟨#[111, 112, 116, 105, 111, 110]⟩, .string ⟨#[]⟩, .slice none 0 0, .int .i64 1, .slice none 0 0, .string ⟨#[111, 112, 116, 105, 111, 110]⟩, .string ⟨#[]⟩, .slice none 0 0, .int .i64 1, .slice none 0 0] 43)).alloc (.cells (cellsC exC exF).toArray 48)) (w.heap.size + 1) [.int .i64 1] 3 ∧ Bk (((((w.alloc (.cells #[u1, u2] 25)).alloc (.cells #[.int .i64 1] 3)).alloc (.cells #[.int .i64 2, .int .i64 3] 3)).alloc (.cells #[.string ⟨#[104, 116, 109, 108]⟩, .string ⟨#[]⟩, .slice none 0 0, .int .i64 (-1), .slice (some ⟨w.heap.size + 1, 0, none⟩) 1 1, .string ⟨#[115, 101, 108, 101, 99, 116]⟩, .string ⟨#[]⟩, .slice none 0 0, .int .i64 0, .slice (some ⟨w.heap.size + 1 + 1, 0, none⟩) 2 2, .string ⟨#[111, 112, 116, 105, 111, 110]⟩, .string ⟨#[]⟩, .slice none 0 0, .int .i64 1, .slice none 0 0, .string ⟨#[111, 112, 116, 105, 111, 110]⟩, .string ⟨#[]⟩, .slice none 0 0, .int .i64 1, .slice none 0 0] 43)).alloc (.cells (cellsC exC exF).toArray 48)) (w.heap.size + 1 + 1) [.int .i64 2, .int .i64 3] 3 ∧ Bk (((((w.alloc (.cells #[u1, u2] 25)).alloc (.cells #[.int .i64 1] 3)).alloc (.cells #[.int .i64 2, .int .i64 3] 3)).alloc (.cells #[.string ⟨#[104, 116, 109, 108]⟩, .string ⟨#[]⟩, .slice none 0 0, .int .i64 (-1), .slice (some ⟨w.heap.size + 1, 0, none⟩) 1 1, .string ⟨#[115, 101, 108, 101, 99, 116]⟩, .string ⟨#[]⟩, .slice none 0 0, .int .i64 0, .slice (some ⟨w.heap.size + 1 + 1, 0, none⟩) 2 2, .string ⟨#[111, 112, 116, 105, 111, 110]⟩, .string ⟨#[]⟩, .slice none 0 0, .int .i64 1, .slice none 0 0, .string ⟨#[111, 112, 116, 105, 111, 110]⟩, .string ⟨#[]⟩, .slice none 0 0, .int .i64 1, .slice none 0 0] 43)).alloc (.cells (cellsC exC exF).toArray 48)) (w.heap.size + 1 + 1 + 1) [.string ⟨#[104, 116, 109, 108]⟩, .string ⟨#[]⟩, .slice none 0 0, .int .i64 (-1), .slice (some ⟨w.heap.size + 1, 0, none⟩) 1 1, .string ⟨#[115, 101, 108, 101, 99, 116]⟩, .string ⟨#[]⟩, .slice none 0 0, .int .i64 0, .slice (some ⟨w.heap.size + 1 + 1, 0, none⟩) 2 2, .string ⟨#[111, 112, 116, 105, 111, 110]⟩, .string ⟨#[]⟩, .slice none 0 0, .int .i64 1, .slice none 0 0, .string ⟨#[111, 112, 116, 105, 111, 110]⟩, .string ⟨#[]⟩, .slice none 0 0, .int .i64 1, .slice none 0 0] 43 ∧ Bk (((((w.alloc (.cells #[u1, u2] 25)).alloc (.cells #[.int .i64 1] 3)).alloc (.cells #[.int .i64 2, .int .i64 3] 3)).alloc (.cells #[.string ⟨#[104, 116, 109, 108]⟩, .string ⟨#[]⟩, .slice none 0 0, .int .i64 (-1), .slice (some ⟨w.heap.size + 1, 0, none⟩) 1 1, .string ⟨#[115, 101, 108, 101, 99, 116]⟩, .string ⟨#[]⟩, .slice none 0 0, .int .i64 0, .slice (some ⟨w.heap.size + 1 + 1, 0, none⟩) 2 2, .string ⟨#[111, 112, 116, 105, 111, 110]⟩, .string ⟨#[]⟩, .slice none 0 0, .int .i64 1, .slice none 0 0, .string ⟨#[111, 112, 116, 105, 111, 110]⟩, .string ⟨#[]⟩, .slice none 0 0, .int .i64 1, .slice none 0 0] 43)).alloc (.cells (cellsC exC exF).toArray 48)) (w.heap.size + 1 + 1 + 1 + 1) (cellsC exC exF) 48 ∧ Below w.heap.size w (((((w.alloc (.cells #[u1, u2] 25)).alloc (.cells #[.int .i64 1] 3)).alloc (.cells #[.int .i64 2, .int .i64 3] 3)).alloc (.cells #[.string ⟨#[104, 116, 109, 108]⟩, .string ⟨#[]⟩, .slice none 0 0, .int .i64 (-1), .slice (some ⟨w.heap.size + 1, 0, none⟩) 1 1, .string ⟨#[115, 101, 108, 101, 99, 116]⟩, .string ⟨#[]⟩, .slice none 0 0, .int .i64 0, .slice (some ⟨w.heap.size + 1 + 1, 0, none⟩) 2 2, .string ⟨#[111, 112, 116, 105, 111, 110]⟩, .string ⟨#[]⟩, .slice none 0 0, .int .i64 1, .slice none 0 0, .string ⟨#[111, 112, 116, 105, 111, 110]⟩, .string ⟨#[]⟩, .slice none 0 0, .int .i64 1, .slice none 0 0] 43)).alloc (.cells (cellsC exC exF).toArray 48)) := by
  have s1 : (w.alloc (.cells #[u1, u2] 25)).heap.size = w.heap.size + 1 := bk_next rfl
  have s2 : ((w.alloc (.cells #[u1, u2] 25)).alloc (.cells #[.int .i64 1] 3)).heap.size = w.heap.size + 1 + 1 := bk_next s1
  have s3 : (((w.alloc (.cells #[u1, u2] 25)).alloc (.cells #[.int .i64 1] 3)).alloc (.cells #[.int .i64 2, .int .i64 3] 3)).heap.size = w.heap.size + 1 + 1 + 1 := bk_next s2
  have s4 : ((((w.alloc (.cells #[u1, u2] 25)).alloc (.cells #[.int .i64 1] 3)).alloc (.cells #[.int .i64 2, .int .i64 3] 3)).alloc (.cells #[.string ⟨#[104, 116, 109, 108]⟩, .string ⟨#[]⟩, .slice none 0 0, .int .i64 (-1), .slice (some ⟨w.heap.size + 1, 0, none⟩) 1 1, .string ⟨#[115, 101, 108, 101, 99, 116]⟩, .string ⟨#[]⟩, .slice none 0 0, .int .i64 0, .slice (some ⟨w.heap.size + 1 + 1, 0, none⟩) 2 2, .string ⟨#[111, 112, 116, 105, 111, 110]⟩, .string ⟨#[]⟩, .slice none 0 0, .int .i64 1, .slice none 0 0, .string ⟨#[111, 112, 116, 105, 111, 110]⟩, .string ⟨#[]⟩, .slice none 0 0, .int .i64 1, .slice none 0 0] 43)).heap.size = w.heap.size + 1 + 1 + 1 + 1 := bk_next s3
  have k1 : Bk (w.alloc (.cells #[u1, u2] 25)) w.heap.size [u1, u2] 25 := Bk.at' rfl
  have k2 : Bk ((w.alloc (.cells #[u1, u2] 25)).alloc (.cells #[.int .i64 1] 3)) (w.heap.size + 1) [.int .i64 1] 3 := Bk.at' s1
  have k3 : Bk (((w.alloc (.cells #[u1, u2] 25)).alloc (.cells #[.int .i64 1] 3)).alloc (.cells #[.int .i64 2, .int .i64 3] 3)) (w.heap.size + 1 + 1) [.int .i64 2, .int .i64 3] 3 := Bk.at' s2
  have k4 : Bk ((((w.alloc (.cells #[u1, u2] 25)).alloc (.cells #[.int .i64 1] 3)).alloc (.cells #[.int .i64 2, .int .i64 3] 3)).alloc (.cells #[.string ⟨#[104, 116, 109, 108]⟩, .string ⟨#[]⟩, .slice none 0 0, .int .i64 (-1), .slice (some ⟨w.heap.size + 1, 0, none⟩) 1 1, .string ⟨#[115, 101, 108, 101, 99, 116]⟩, .string ⟨#[]⟩, .slice none 0 0, .int .i64 0, .slice (some ⟨w.heap.size + 1 + 1, 0, none⟩) 2 2, .string ⟨#[111, 112, 116, 105, 111, 110]⟩, .string ⟨#[]⟩, .slice none 0 0, .int .i64 1, .slice none 0 0, .string ⟨#[111, 112, 116, 105, 111, 110]⟩, .string ⟨#[]⟩, .slice none 0 0, .int .i64 1, .slice none 0 0] 43)) (w.heap.size + 1 + 1 + 1) [.string ⟨#[104, 116, 109, 108]⟩, .string ⟨#[]⟩, .slice none 0 0, .int .i64 (-1), .slice (some ⟨w.heap.size + 1, 0, none⟩) 1 1, .string ⟨#[115, 101, 108, 101, 99, 116]⟩, .string ⟨#[]⟩, .slice none 0 0, .int .i64 0, .slice (some ⟨w.heap.size + 1 + 1, 0, none⟩) 2 2, .string ⟨#[111, 112, 116, 105, 111, 110]⟩, .string ⟨#[]⟩, .slice none 0 0, .int .i64 1, .slice none 0 0, .string ⟨#[111, 112, 116, 105, 111, 110]⟩, .string ⟨#[]⟩, .slice none 0 0, .int .i64 1, .slice none 0 0] 43 := Bk.at' s3
  have k5 : Bk (((((w.alloc (.cells #[u1, u2] 25)).alloc (.cells #[.int .i64 1] 3)).alloc (.cells #[.int .i64 2, .int .i64 3] 3)).alloc (.cells #[.string ⟨#[104, 116, 109, 108]⟩, .string ⟨#[]⟩, .slice none 0 0, .int .i64 (-1), .slice (some ⟨w.heap.size + 1, 0, none⟩) 1 1, .string ⟨#[115, 101, 108, 101, 99, 116]⟩, .string ⟨#[]⟩, .slice none 0 0, .int .i64 0, .slice (some ⟨w.heap.size + 1 + 1, 0, none⟩) 2 2, .string ⟨#[111, 112, 116, 105, 111, 110]⟩, .string ⟨#[]⟩, .slice none 0 0, .int .i64 1, .slice none 0 0, .string ⟨#[111, 112, 116, 105, 111, 110]⟩, .string ⟨#[]⟩, .slice none 0 0, .int .i64 1, .slice none 0 0] 43)).alloc (.cells (cellsC exC exF).toArray 48)) (w.heap.size + 1 + 1 + 1 + 1) (cellsC exC exF) 48 := Bk.at' s4
  have b1 : Below w.heap.size w (w.alloc (.cells #[u1, u2] 25)) := (Below.refl _ w).alloc (Nat.le_refl _) _
  have b2 : Below (w.alloc (.cells #[u1, u2] 25)).heap.size (w.alloc (.cells #[u1, u2] 25)) ((w.alloc (.cells #[u1, u2] 25)).alloc (.cells #[.int .i64 1] 3)) := (Below.refl _ _).alloc (Nat.le_refl _) _
  have b3 : Below ((w.alloc (.cells #[u1, u2] 25)).alloc (.cells #[.int .i64 1] 3)).heap.size ((w.alloc (.cells #[u1, u2] 25)).alloc (.cells #[.int .i64 1] 3)) (((w.alloc (.cells #[u1, u2] 25)).alloc (.cells #[.int .i64 1] 3)).alloc (.cells #[.int .i64 2, .int .i64 3] 3)) := (Below.refl _ _).alloc (Nat.le_refl _) _
  have b4 : Below (((w.alloc (.cells #[u1, u2] 25)).alloc (.cells #[.int .i64 1] 3)).alloc (.cells #[.int .i64 2, .int .i64 3] 3)).heap.size (((w.alloc (.cells #[u1, u2] 25)).alloc (.cells #[.int .i64 1] 3)).alloc (.cells #[.int .i64 2, .int .i64 3] 3)) ((((w.alloc (.cells #[u1, u2] 25)).alloc (.cells #[.int .i64 1] 3)).alloc (.cells #[.int .i64 2, .int .i64 3] 3)).alloc (.cells #[.string ⟨#[104, 116, 109, 108]⟩, .string ⟨#[]⟩, .slice none 0 0, .int .i64 (-1), .slice (some ⟨w.heap.size + 1, 0, none⟩) 1 1, .string ⟨#[115, 101, 108, 101, 99, 116]⟩, .string ⟨#[]⟩, .slice none 0 0, .int .i64 0, .slice (some ⟨w.heap.size + 1 + 1, 0, none⟩) 2 2, .string ⟨#[111, 112, 116, 105, 111, 110]⟩, .string ⟨#[]⟩, .slice none 0 0, .int .i64 1, .slice none 0 0, .string ⟨#[111, 112, 116, 105, 111, 110]⟩, .string ⟨#[]⟩, .slice none 0 0, .int .i64 1, .slice none 0 0] 43)) := (Below.refl _ _).alloc (Nat.le_refl _) _
  have b5 : Below ((((w.alloc (.cells #[u1, u2] 25)).alloc (.cells #[.int .i64 1] 3)).alloc (.cells #[.int .i64 2, .int .i64 3] 3)).alloc (.cells #[.string ⟨#[104, 116, 109, 108]⟩, .string ⟨#[]⟩, .slice none 0 0, .int .i64 (-1), .slice (some ⟨w.heap.size + 1, 0, none⟩) 1 1, .string ⟨#[115, 101, 108, 101, 99, 116]⟩, .string ⟨#[]⟩, .slice none 0 0, .int .i64 0, .slice (some ⟨w.heap.size + 1 + 1, 0, none⟩) 2 2, .string ⟨#[111, 112, 116, 105, 111, 110]⟩, .string ⟨#[]⟩, .slice none 0 0, .int .i64 1, .slice none 0 0, .string ⟨#[111, 112, 116, 105, 111, 110]⟩, .string ⟨#[]⟩, .slice none 0 0, .int .i64 1, .slice none 0 0] 43)).heap.size ((((w.alloc (.cells #[u1, u2] 25)).alloc (.cells #[.int .i64 1] 3)).alloc (.cells #[.int .i64 2, .int .i64 3] 3)).alloc (.cells #[.string ⟨#[104, 116, 109, 108]⟩, .string ⟨#[]⟩, .slice none 0 0, .int .i64 (-1), .slice (some ⟨w.heap.size + 1, 0, none⟩) 1 1, .string ⟨#[115, 101, 108, 101, 99, 116]⟩, .string ⟨#[]⟩, .slice none 0 0, .int .i64 0, .slice (some ⟨w.heap.size + 1 + 1, 0, none⟩) 2 2, .string ⟨#[111, 112, 116, 105, 111, 110]⟩, .string ⟨#[]⟩, .slice none 0 0, .int .i64 1, .slice none 0 0, .string ⟨#[111, 112, 116, 105, 111, 110]⟩, .string ⟨#[]⟩, .slice none 0 0, .int .i64 1, .slice none 0 0] 43)) (((((w.alloc (.cells #[u1, u2] 25)).alloc (.cells #[.int .i64 1] 3)).alloc (.cells #[.int .i64 2, .int .i64 3] 3)).alloc (.cells #[.string ⟨#[104, 116, 109, 108]⟩, .string ⟨#[]⟩, .slice none 0 0, .int .i64 (-1), .slice (some ⟨w.heap.size + 1, 0, none⟩) 1 1, .string ⟨#[115, 101, 108, 101, 99, 116]⟩, .string ⟨#[]⟩, .slice none 0 0, .int .i64 0, .slice (some ⟨w.heap.size + 1 + 1, 0, none⟩) 2 2, .string ⟨#[111, 112, 116, 105, 111, 110]⟩, .string ⟨#[]⟩, .slice none 0 0, .int .i64 1, .slice none 0 0, .string ⟨#[111, 112, 116, 105, 111, 110]⟩, .string ⟨#[]⟩, .slice none 0 0, .int .i64 1, .slice none 0 0] 43)).alloc (.cells (cellsC exC exF).toArray 48)) := (Below.refl _ _).alloc (Nat.le_refl _) _
  exact ⟨(((k1.below b2).below b3).below b4).below b5, ((k2.below b3).below b4).below b5, (k3.below b4).below b5, k4.below b5, k5, chain (chain (chain (chain b1 b2) b3) b4) b5⟩
set_option maxHeartbeats 8000000 in
theorem opSome_any (w : World) :
    Calls Tryd.prog 20 #[] w fun e w' => ∃ nv cv, e = .returned (.agg #[nv, cv]) ∧ DocV w' nv cv exL exC ∧ Below w.heap.size w w' := by
  obtain ⟨iC, hI0, hI1, hI2, hI3⟩ := info_parts infoC
  have MK : ∀ W : World, (Instr.makeSlice 23 (.int .i64 4) (.int .i64 4)).run Tryd.prog W = .ok (.slice (some ⟨W.heap.size, 0, none⟩) 4 4) (W.alloc (.cells (cellsC exC exF).toArray 48)) := fun W => by
    have := run_make (P := Tryd.prog) W 23 48 iC _ Tryd.underlying23 hI0 hI1 .i64 .i64 4 4 (by decide) (by decide) (by rw [hI3]; decide) (by decide)
    rw [hI2, show (4 : Int).toNat = 4 from rfl, show 4 * 10 = 40 from rfl, ex_made] at this
    exact this
  have EW := hide (ex_world w (.slice (some ⟨w.heap.size + 1 + 1 + 1, 0, none⟩) 4 4) (.slice (some ⟨w.heap.size + 1 + 1 + 1 + 1, 0, none⟩) 4 4))
  clear hI0 hI1 hI2 hI3
  go_enter Tryd.func20, Tryd.ntmps20
  go_wp2_with fail
  have r0 := EW.out.1.cell 0 rfl
  have r1 := EW.out.1.cell 1 rfl
  have HD := hide (ex_doc EW.out.2.1 EW.out.2.2.1 EW.out.2.2.2.1 EW.out.2.2.2.2.1)
  have HB := hide EW.out.2.2.2.2.2
  clear EW
  refine bodyPost_ret (v := .agg #[.slice (some ⟨w.heap.size + 1 + 1 + 1, 0, none⟩) 4 4, .slice (some ⟨w.heap.size + 1 + 1 + 1 + 1, 0, none⟩) 4 4]) (by simp [results, go_sem, r0, r1]) rfl ?_
  exact ⟨_, _, rfl, HD.out, HB.out⟩
theorem addr_neO {b b' o o' : Nat} (h : b ≠ b') : (⟨b, o, none⟩ : Addr) ≠ ⟨b', o', none⟩ := fun e => h (by cases e; rfl)
theorem undrewO {w w1 : World} (b : Below (w.drewN 1).heap.size (w.drewN 1) w1) : Below w.heap.size w w1 := ⟨b.os, b.tape, b.output, b.size, b.block⟩
theorem belRO {B : Nat} {a w : World} (h : Below B a w) (n : Nat) : Below B a (w.drewN n) := ⟨h.os, h.tape, h.output, h.size, h.block⟩
theorem own_form {B : Nat} {w : World} {v : Value} {L : List NdV} {l : List Nd} (h : OwnD B w v L) (e : ndsOf L = l) : ∃ p c, v = .slice p l.length c := by
  obtain ⟨p, c, q, _⟩ := h.nodes
  rw [e] at q
  exact ⟨p, c, q⟩
theorem CtsO.chg {base : Nat} {S : List Nat} {w w' : World} {v : Value} {C : List Ct} {F : List Value} (h : CtsO base w v C F) (hc : Chg S w w') (hs : ∀ k ∈ S, k < base) : CtsO base w' v C F :=
  ⟨h.len, owns_kept h.row hc (fun k hk q => by have := (h.row.lt k hk).1; have := hs k q; omega)⟩
theorem OwnD.chg {base : Nat} {S : List Nat} {w w' : World} {v : Value} {L : List NdV} (h : OwnD base w v L) (hc : Chg S w w') (hs : ∀ k ∈ S, k < base) : OwnD base w' v L :=
  h.kept hc (fun k q r => by have := (h.lt r).1; have := hs k q; omega)
set_option maxHeartbeats 8000000 in
theorem opCopied_any (nv cv : Value) (l : List Nd) (C : List Ct) (w : World) (hD : DocV w nv cv l C) (hz : DocSz l) (hC : CsOK C) :
    Calls Tryd.prog 7 #[.agg #[nv, cv]] w fun e w' => ∃ nv' cv', e = .returned (.agg #[nv', cv']) ∧ DocV w' nv' cv' l C ∧ Below w.heap.size w w' := by
  obtain ⟨F, hF⟩ := hD.cts
  have H1 := hide (fun W (hb : Below w.heap.size w W) => refCopied_any nv l W (hD.nds.below hb) hz)
  have H2 := hide (fun W (hb : Below w.heap.size w W) => refOCopied_any cv C F W (hF.below hb) hC)
  have FI := hide hF.1
  obtain ⟨pn, kn, rfl⟩ := nds_form hD.nds
  obtain ⟨pc, kc, rfl⟩ := cts_form hD.cts
  have B0 : Hid (Below w.heap.size w ((w.alloc (.cells #[.slice pn l.length kn, .slice pc C.length kc] 25)).alloc (.cells #[.slice none 0 0, .slice none 0 0] 25))) := ((Below.refl _ w).alloc (Nat.le_refl _) _).alloc ((Below.refl _ w).alloc (Nat.le_refl _) (.cells #[.slice pn l.length kn, .slice pc C.length kc] 25)).size _
  have ND := hide ((Bk.new w [.slice pn l.length kn, .slice pc C.length kc] 25).below ((Below.refl _ (w.alloc (.cells #[.slice pn l.length kn, .slice pc C.length kc] 25))).alloc (Nat.le_refl _) (.cells #[.slice none 0 0, .slice none 0 0] 25)))
  have NR : Hid (Bk ((w.alloc (.cells #[.slice pn l.length kn, .slice pc C.length kc] 25)).alloc (.cells #[.slice none 0 0, .slice none 0 0] 25)) (w.heap.size + 1) [.slice none 0 0, .slice none 0 0] 25) := Bk.at' (bk_next rfl)
  clear hD hz hC hF
  go_enter Tryd.func7, Tryd.ntmps7
  go_upto_region 1 with fail
  generalize (w.alloc (.cells #[.slice pn l.length kn, .slice pc C.length kc] 25)).alloc (.cells #[.slice none 0 0, .slice none 0 0] 25) = w0 at *
  have x0 := ND.out.cell 0 rfl
  have x1 := ND.out.cell 1 rfl
  have r0 := NR.out.cell 0 rfl
  have r1 := NR.out.cell 1 rfl
  have s0 := NR.out.free 0
  have s1 := NR.out.free 1
  have l0 : w.heap.size + 1 < w0.heap.size := NR.out.lt
  go_region_held3 (fun w' => w'.cell? ⟨w.heap.size, 0, none⟩ = some (.slice pn l.length kn) ∧ w'.cell? ⟨w.heap.size, 1, none⟩ = some (.slice pc C.length kc)) (first | go_keep | exact ⟨cell_below x0 U1.out, cell_below x1 U1.out⟩ | exact ⟨cell_below x0 U2.out, cell_below x1 U2.out⟩ | exact ⟨(World.cell?_setCell_other _ _ _ _ (addr_neO (Nat.succ_ne_self _))).trans ((World.cell?_setCell_other _ _ _ _ (addr_neO (Nat.succ_ne_self _))).trans (cell_below x0 U2.out)), (World.cell?_setCell_other _ _ _ _ (addr_neO (Nat.succ_ne_self _))).trans ((World.cell?_setCell_other _ _ _ _ (addr_neO (Nat.succ_ne_self _))).trans (cell_below x1 U2.out))⟩)
    (first | (go_at_call 22; refine (H1.out _ (belRO B0.out 1)).mono ?_; rintro e w1 ⟨v1, L1, rfl, o1, e1, b1⟩; have O1 := hide o1; have E1 := hide e1; obtain ⟨p1, k1, rfl⟩ := own_form o1 e1; clear o1 e1; have U1 : Hid (Below w0.heap.size w0 w1) := undrewO b1) | (go_at_call 23; refine (H2.out _ (chain B0.out U1.out)).mono ?_; rintro e w2 ⟨v2, rfl, o2, b2⟩; have O2 := hide o2; obtain ⟨p2, k2, rfl, _⟩ := o2.form; clear o2; have U2 : Hid (Below w0.heap.size w0 w2) := chain U1.out b2; have y0 := cell_below r0 U2.out; have y1 := cell_below r1 U2.out; have z0 := (U2.out.frozen (World.block_lt_of_cell? _ _ r0)).trans s0; have z1 := (U2.out.frozen (World.block_lt_of_cell? _ _ r1)).trans s1))
  go_wp2_with fail
  refine bodyPost_ret (v := .agg #[.slice p1 l.length k1, .slice p2 C.length k2]) (by simp [results, go_sem, y0, y1]) rfl ?_
  have CH : Chg [w.heap.size + 1] w2 ((w2.setCell ⟨w.heap.size + 1, 0, none⟩ (.slice p1 l.length k1)).setCell ⟨w.heap.size + 1, 1, none⟩ (.slice p2 C.length k2)) := (Chg.setB _ _ _ _).trans (Chg.setB _ _ _ _)
  have BF : Below w.heap.size w ((w2.setCell ⟨w.heap.size + 1, 0, none⟩ (.slice p1 l.length k1)).setCell ⟨w.heap.size + 1, 1, none⟩ (.slice p2 C.length k2)) := ((chain B0.out U2.out).setCell (Nat.le_succ _) _).setCell (Nat.le_succ _) _
  have N1 := ((O1.out.below b2).chg CH (fun k q => by rw [List.mem_singleton.1 q]; exact l0)).nodes
  rw [E1.out] at N1
  exact ⟨_, _, rfl, ⟨N1, (O2.out.chg CH (fun k q => by rw [List.mem_singleton.1 q]; have := U1.out.size; omega)).cts (FI.out.below BF)⟩, BF⟩
end Go.Proofs.YtemikdmkjgmflaaDoor

namespace Go.Proofs.YtemikdmkjgmflaaDoor
open Go.RowKit
set_option maxRecDepth 100000
/-- The flags of states behind a slice. -/
theorem cts_sel {w : World} {v : Value} {C : List Ct} (h : CtsV w v C) (h0 : 0 < C.length) : ∃ b o k, v = .slice (some ⟨b, o, none⟩) C.length k ∧ ∀ i (hi : i < C.length), w.cell? ⟨b, o + i * 10 + 6, none⟩ = some (.bool C[i].sel) := by
  obtain ⟨F, _, p, k, e, h⟩ := h
  rcases h with h | ⟨b, o, rfl, h⟩
  · rw [h] at h0; cases h0
  · exact ⟨b, o, k, e, fun i hi => h i hi 6 _ rfl⟩
set_option maxHeartbeats 8000000 in
theorem opWakes_any (w : World) (hT : OpTabs w) :
    Calls Tryd.prog 6 #[] w fun e w' => e = .returned (.bool true) ∧ Below w.heap.size w w' := by
  have HT := hide hT
  have HS := hide opSome_any
  have HF := hide (fun nv cv W (hb : Below w.heap.size w W) (hD : DocV W nv cv exL exC) => opFix_any nv cv exL exC 1 W hD ex_sz ex_ok (HT.out.below hb))
  rw [ex_fix] at HF
  have HC := hide (fun nv cv W (hb : Below w.heap.size w W) (hD : DocV W nv cv exL exC) => opChoose_any nv cv exL exC 3 true W hD ex_sz ex_ok (HT.out.below hb))
  rw [ex_choose] at HC
  have HR := hide (fun nv cv W (hb : Below w.heap.size w W) (hD : DocV W nv cv exL exC) => opRight_any nv cv exL exC W hD ex_sz ex_ok (HT.out.below hb))
  rw [ex_right] at HR
  clear hT
  go_enter Tryd.func6, Tryd.ntmps6
  go_wp2_with fail
  refine (HS.out _).mono ?_
  rintro e w1 ⟨n1, c1, rfl, d1, b1⟩
  have D1 := hide d1
  obtain ⟨p1, k1, rfl⟩ := nds_form d1.nds
  obtain ⟨q1, m1, rfl⟩ := cts_form d1.cts
  clear d1
  go_wp2_with fail
  refine (HF.out _ _ _ b1 D1.out).mono ?_
  rintro e w2 ⟨v2, rfl, g2, b2⟩
  have B2 := hide (chain b1 b2)
  have G2 := hide g2
  obtain ⟨a, oa, ka, rfl, _⟩ := cts_sel g2 (by decide)
  clear g2 b1 b2 D1
  go_wp2_with fail
  refine (HS.out _).mono ?_
  rintro e w3 ⟨n3, c3, rfl, d3, b3⟩
  have D3 := hide d3
  obtain ⟨p3, k3, rfl⟩ := nds_form d3.nds
  obtain ⟨q3, m3, rfl⟩ := cts_form d3.cts
  have B3 := hide (chain B2.out b3)
  have G3 := hide (G2.out.below b3)
  clear d3 b3 B2 G2
  go_wp2_with fail
  refine (HC.out _ _ _ B3.out D3.out).mono ?_
  rintro e w4 ⟨v4, rfl, g4, b4⟩
  have B4 := hide (chain B3.out b4)
  have G4 := hide (G3.out.below b4)
  have J4 := hide g4
  obtain ⟨c, oc, kc, rfl, _⟩ := cts_sel g4 (by decide)
  clear g4 b4 B3 G3 D3
  go_wp2_with fail
  refine (HS.out _).mono ?_
  rintro e w5 ⟨n5, c5, rfl, d5, b5⟩
  have D5 := hide d5
  obtain ⟨p5, k5, rfl⟩ := nds_form d5.nds
  obtain ⟨q5, m5, rfl⟩ := cts_form d5.cts
  have B5 := hide (chain B4.out b5)
  have G5 := hide (G4.out.below b5)
  have J5 := hide (J4.out.below b5)
  clear d5 b5 B4 G4 J4
  go_wp2_with fail
  refine (HR.out _ _ _ B5.out D5.out).mono ?_
  rintro e w6 ⟨rfl, b6⟩
  have B6 := hide (chain B5.out b6)
  obtain ⟨_, _, _, ea, ha⟩ := cts_sel (G5.out.below b6) (by decide)
  cases ea
  obtain ⟨_, _, _, ec, hc⟩ := cts_sel (J5.out.below b6) (by decide)
  cases ec
  have a2 := ha 2 (by decide)
  have a3 := ha 3 (by decide)
  have e2 := hc 2 (by decide)
  have e3 := hc 3 (by decide)
  simp only [List.getElem_cons_succ, List.getElem_cons_zero] at a2 a3 e2 e3
  rw [show ct0.sel = false from rfl] at a3
  rw [show ct0.sel = false from rfl] at e2
  clear ha hc G5 J5 B5 D5 b6 HF HC HR HS HT
  go_wp2_with fail
  go_ret
  exact ⟨rfl, B6.out⟩

end Go.Proofs.YtemikdmkjgmflaaDoor
