/- The document's Copied of layer 10. The document's Together, Members of layer 17. -/
import Derived.Test.YtldbaoolddlacaaDoorJgd14
import Derived.Test.YtldbaoolddlacaaDoorJgd16
import Derived.Deep.RegionLaw
import Derived.Deep.DrawnRows

namespace Go.Proofs.YtldbaoolddlacaaDoor
open Go.RowKit
set_option maxRecDepth 100000
set_option maxHeartbeats 4000000 in
set_option maxRecDepth 100000 in
theorem refCopied_any (v : Value) (l : List Nd) (w : World) (hv : NodesV w v l) (hz : DocSz l) :
    Calls Tryd.prog 6 #[v] w fun e w' => ∃ v' L, e = .returned v' ∧ OwnD w.heap.size w' v' L ∧ ndsOf L = l ∧ Below w.heap.size w w' := by
  obtain ⟨p, c, rfl, hv⟩ := hv
  have hlen := hz.len
  have SZ := hide hz
  clear hz
  generalize hB : w.heap.size = B
  go_enter Tryd.func6, Tryd.ntmps6
  go_wp2_with fail
  go_loopw [3, 4] (fun ov iv wr => ∃ (j : Nat) (L : List NdV), j ≤ l.length ∧ iv = .int .i64 j ∧ Hid (OwnD B wr ov L ∧ ndsOf L = l.take j ∧ Below B w wr)) (fun _ iv _ => l.length - (intOf iv).toNat)
  case atStart => exact ⟨0, [], Nat.zero_le _, rfl, ⟨World.ownsRow_nil w B _ 5, (fun _ q => by cases q), (fun _ q => by cases q), by simp [Value.ownBlock]⟩, by simp [ndsOf], Below.refl _ _⟩
  case round =>
    rename World => wr
    obtain ⟨j, L, hj, rfl, HD⟩ := hrel
    by_cases h : j < l.length
    · have i1 : (j : Int) < (l.length : Int) := by omega
      have i0 : (0 : Int) ≤ (j : Int) := by omega
      rcases hv with hv | ⟨b, o, rfl, hv⟩
      · rw [hv] at h; simp at h
      obtain ⟨va, vk, N0⟩ := hv j h
      have N1 : NodeAt wr b (o + j * 5) l[j] va vk := N0.below (by rw [hB]; exact HD.out.2.2)
      have Bw : B ≤ wr.heap.size := by have := HD.out.2.2.size; omega
      have bl : b < wr.heap.size := World.block_lt_of_cell? _ _ N1.name
      have bn : b ≠ wr.heap.size := by omega
      have bn2 : ¬ wr.heap.size = b := by omega
      have a0 := N1.name
      have a1 := N1.text
      have a3 := N1.parent
      have DB : Hid (∀ w', Chg [wr.heap.size] wr w' → NodeAt w' b (o + j * 5) l[j] va vk) := fun w' hc => N1.below (hc.none (fun k q => by rw [List.mem_singleton.1 q]; exact Nat.le_refl _))
      have HZ := hide (SZ.out.nds l[j] (List.getElem_mem _))
      have LL : Hid (L.length = j) := by
        show _ = _
        have := congrArg List.length HD.out.2.1
        rw [ndsOf_len, List.length_take] at this
        omega
      clear N0 N1 hv SZ
      obtain ⟨y, hy⟩ : ∃ y, Hid (l[j] = y) := ⟨l[j], show l[j] = l[j] from rfl⟩
      rw [hy.out] at a0 a1 a3 DB HZ
      obtain ⟨iA, hA0, hA1, hA2, hA3⟩ := info_parts infoA
      obtain ⟨iI, hI0, hI1, hI2, hI3⟩ := info_parts infoI
      obtain ⟨iN, hN0, hN1, hN2, hN3⟩ := info_parts infoN
      have za := HZ.out.attrs
      have zk := HZ.out.kids
      have OA := cellsA_one y.attrs
      have OK := cellsI_one y.kids
      obtain ⟨y0, hy0⟩ : ∃ y0, Hid (y.name = y0) := ⟨y.name, show y.name = y.name from rfl⟩
      obtain ⟨y1, hy1⟩ : ∃ y1, Hid (y.text = y1) := ⟨y.text, show y.text = y.text from rfl⟩
      obtain ⟨y3, hy3⟩ : ∃ y3, Hid (y.parent = y3) := ⟨y.parent, show y.parent = y.parent from rfl⟩
      rw [hy0.out] at a0
      rw [hy1.out] at a1
      rw [hy3.out] at a3
      go_wp2_with fail
      go_region
      generalize hw1 : (wr.alloc (.cells #[Value.string y0, Value.string y1, Value.slice none 0 0, Value.int IntKind.i64 y3, Value.slice none 0 0] 44)).drew = w1
      have NB1 : Hid (NB w1 wr.heap.size [Value.string y0, Value.string y1, Value.slice none 0 0, Value.int IntKind.i64 y3, Value.slice none 0 0] 44) := by rw [← hw1]; exact (NB.new wr _ _).drew
      have C1 : Hid (Chg [wr.heap.size] wr w1) := by rw [← hw1]; exact ((Chg.alloc wr _).trans (Chg.drew _)).nil
      have s1 : Hid (w1.heap.size = wr.heap.size + 1) := by rw [← hw1]; show (wr.alloc _).heap.size = _; simp
      clear hw1 a0 a1 a3
      have b0 := NB1.out.cell 2 rfl
      have b1 := NB1.out.free 2
      have A2 := (DB.out w1 C1.out).attrs
      have RA := hide (DB.out w1 C1.out).at_.raw
      have HB1 : Hid (B ≤ w1.heap.size) := by show _ ≤ _; rw [s1.out]; omega
      have ln := NB1.out.lt
      go_wp2_with fail
      go_region_law ((refine step_append_raw (by rfl) _ _ _ (by rfl) B 41 iA _ 2 32 Tryd.underlying42 hA0 hA1 hA2 hA3 rfl (by omega) (.slice none 0 0) 0 [] (by rfl) (World.ownsRow_nil _ _ _ _) va y.attrs.length (cellsA y.attrs) (by rfl) RA.out OA (by unfold maxLen; omega) (by omega) HB1.out ?_; intro q2 c2 w2 own2 gr2 at2; have k0 := World.grownBy.cell gr2 (a := ⟨wr.heap.size, 2, none⟩) b0 (by simp [Value.ownBlock]); have k1 := (World.grownBy.frozen_far gr2 ⟨wr.heap.size, 2, none⟩ ln (by simp [Value.ownBlock])).trans b1))
      all_goals
        rw [Nat.zero_add] at own2 at2
        rw [List.nil_append] at own2
        have C2 : Hid (Chg [wr.heap.size] w1 w2) := ((Chg.drew w1).trans (Chg.of_grown gr2)).nil
        have B2 : Hid (∀ k, (Value.slice q2 y.attrs.length c2).ownBlock = some k → k = wr.heap.size + 1 ∧ k < w2.heap.size) := by
          intro k hk
          rcases at2 with q | q
          · rw [q] at hk; cases hk
          · refine ⟨?_, (own2.lt k hk).2⟩
            rw [q] at hk
            have : w1.heap.size = k := Option.some.inj hk
            have := s1.out
            omega
        have N2 : Hid (NB w2 wr.heap.size [Value.string y0, Value.string y1, Value.slice none 0 0, Value.int IntKind.i64 y3, Value.slice none 0 0] 44) := NB1.out.chg ((Chg.drew w1).trans (Chg.of_grown gr2)) (by simp)
        have O2 := hide own2
        clear own2 at2 gr2 k0 k1 b0 b1 A2 RA HB1 ln
        generalize hw3 : w2.setCell ⟨wr.heap.size, 2, none⟩ (Value.slice q2 y.attrs.length c2) = w3
        have NB3 : Hid (NB w3 wr.heap.size [Value.string y0, Value.string y1, Value.slice q2 y.attrs.length c2, Value.int IntKind.i64 y3, Value.slice none 0 0] 44) := by rw [← hw3]; exact N2.out.set 2 _
        have C3' : Hid (Chg [wr.heap.size] w2 w3) := by rw [← hw3]; exact Chg.setB w2 _ _ _
        have C3 : Hid (Chg [wr.heap.size] wr w3) := C1.out.trans (C2.out.trans C3'.out)
        have O3 : Hid (AttrsO B w3 (Value.slice q2 y.attrs.length c2) y.attrs) := owns_kept O2.out C3'.out (fun k hk q => by
          have := (B2.out k hk).1
          have := List.mem_singleton.1 q
          omega)
        have B3 : Hid (∀ k, (Value.slice q2 y.attrs.length c2).ownBlock = some k → k = wr.heap.size + 1 ∧ k < w3.heap.size) := fun k hk => ⟨(B2.out k hk).1, Nat.lt_of_lt_of_le (B2.out k hk).2 C3'.out.size⟩
        clear hw3 N2 NB1 O2 B2 C3' C2 C1 s1
        have b0 := NB3.out.cell 4 rfl
        have b1 := NB3.out.free 4
        have A4 := (DB.out w3 C3.out).kids
        have RK := hide (DB.out w3 C3.out).ks.raw
        have ln := NB3.out.lt
        have HB3 : Hid (B ≤ w3.heap.size) := by show _ ≤ _; omega
        go_wp2_with fail
        go_region_law ((refine step_append_raw (by rfl) _ _ _ (by rfl) B 3 iI _ 1 8 Tryd.underlying25 hI0 hI1 hI2 hI3 rfl (by omega) (.slice none 0 0) 0 [] (by rfl) (World.ownsRow_nil _ _ _ _) vk y.kids.length (cellsI y.kids) (by rfl) RK.out OK (by unfold maxLen; omega) (by omega) HB3.out ?_; intro q4 c4 w4 own4 gr4 at4; have k0 := World.grownBy.cell gr4 (a := ⟨wr.heap.size, 4, none⟩) b0 (by simp [Value.ownBlock]); have k1 := (World.grownBy.frozen_far gr4 ⟨wr.heap.size, 4, none⟩ ln (by simp [Value.ownBlock])).trans b1))
        all_goals
          rw [Nat.zero_add] at own4 at4
          rw [List.nil_append] at own4
          have C4 : Hid (Chg [wr.heap.size] w3 w4) := ((Chg.drew w3).trans (Chg.of_grown gr4)).nil
          have B4 : Hid (∀ k, (Value.slice q4 y.kids.length c4).ownBlock = some k → w3.heap.size ≤ k ∧ k < w4.heap.size) := by
            intro k hk
            rcases at4 with q | q
            · rw [q] at hk; cases hk
            · refine ⟨?_, (own4.lt k hk).2⟩
              rw [q] at hk
              exact Nat.le_of_eq (Option.some.inj hk)
          have N4 : Hid (NB w4 wr.heap.size [Value.string y0, Value.string y1, Value.slice q2 y.attrs.length c2, Value.int IntKind.i64 y3, Value.slice none 0 0] 44) := NB3.out.chg ((Chg.drew w3).trans (Chg.of_grown gr4)) (by simp)
          have O4 := hide own4
          have O3' : Hid (AttrsO B w4 (Value.slice q2 y.attrs.length c2) y.attrs) := owns_kept O3.out ((Chg.drew w3).trans (Chg.of_grown gr4)) (fun k hk q => by simp at q)
          clear own4 at4 gr4 k0 k1 b0 b1 A4 RK HB3
          generalize hw5 : w4.setCell ⟨wr.heap.size, 4, none⟩ (Value.slice q4 y.kids.length c4) = w5
          have NB5 : Hid (NB w5 wr.heap.size [Value.string y0, Value.string y1, Value.slice q2 y.attrs.length c2, Value.int IntKind.i64 y3, Value.slice q4 y.kids.length c4] 44) := by rw [← hw5]; exact N4.out.set 4 _
          have C5' : Hid (Chg [wr.heap.size] w4 w5) := by rw [← hw5]; exact Chg.setB w4 _ _ _
          have C5 : Hid (Chg [wr.heap.size] wr w5) := C3.out.trans (C4.out.trans C5'.out)
          have O5a : Hid (AttrsO B w5 (Value.slice q2 y.attrs.length c2) y.attrs) := owns_kept O3'.out C5'.out (fun k hk q => by
            have := (B3.out k hk).1
            have := List.mem_singleton.1 q
            omega)
          have O5k : Hid (KidsO B w5 (Value.slice q4 y.kids.length c4) y.kids) := owns_kept O4.out C5'.out (fun k hk q => by
            have := (B4.out k hk).1
            have := List.mem_singleton.1 q
            omega)
          have B5 : Hid (∀ k, (Value.slice q4 y.kids.length c4).ownBlock = some k → w3.heap.size ≤ k ∧ k < w5.heap.size) := fun k hk => ⟨(B4.out k hk).1, Nat.lt_of_lt_of_le (B4.out k hk).2 C5'.out.size⟩
          have B5a : Hid (∀ k, (Value.slice q2 y.attrs.length c2).ownBlock = some k → k = wr.heap.size + 1 ∧ k < w3.heap.size ∧ k < w5.heap.size) := fun k hk => ⟨(B3.out k hk).1, (B3.out k hk).2, Nat.lt_of_lt_of_le (B3.out k hk).2 (Nat.le_trans C4.out.size C5'.out.size)⟩
          clear hw5 N4 NB3 O4 O3 O3' B3 B4 C5' C4 C3
          have e0 := NB5.out.cell 0 rfl
          have e1 := NB5.out.cell 1 rfl
          have e2 := NB5.out.cell 2 rfl
          have e3 := NB5.out.cell 3 rfl
          have e4 := NB5.out.cell 4 rfl
          have ln5 := NB5.out.lt
          have C6 : Hid (Chg [wr.heap.size] wr (w5.alloc (.cells #[Value.string y0, Value.string y1, Value.slice q2 y.attrs.length c2, Value.int IntKind.i64 y3, Value.slice q4 y.kids.length c4] 44))) := C5.out.trans (Chg.alloc _ _).nil
          have R6 := hide ((NB.new w5 [Value.string y0, Value.string y1, Value.slice q2 y.attrs.length c2, Value.int IntKind.i64 y3, Value.slice q4 y.kids.length c4] 44).raw 1 5 rfl 1)
          have W6 : Hid (B ≤ (w5.alloc (.cells #[Value.string y0, Value.string y1, Value.slice q2 y.attrs.length c2, Value.int IntKind.i64 y3, Value.slice q4 y.kids.length c4] 44)).heap.size) := by show _ ≤ _; simp; omega
          have OW := hide (owns_kept HD.out.1.row C6.out (fun k hk q => by
            have := (HD.out.1.row.lt k hk).2
            have := List.mem_singleton.1 q
            omega))
          have HL := LL.out
          go_wp2_with (at_builtin; refine wpList_append_raw rfl _ _ _ rfl B 44 iN _ 5 88 Tryd.underlying22 hN0 hN1 hN2 hN3 rfl (by omega) _ L.length (cellsV L) rfl OW.out _ 1 _ rfl R6.out (by simp [Value.oneCell']) (by unfold maxLen; omega) (by omega) W6.out ?_; intro q6 c6 w6 own6 gr6 at6)
          rw [LL.out] at own6 at6
          have G6 : Hid (Chg u3.ownBlock.toList w5 w6) := (Chg.alloc _ _).nil.trans (Chg.of_grown gr6)
          have U3 : Hid (∀ k, u3.ownBlock = some k → k < wr.heap.size) := fun k hk => (HD.out.1.row.lt k hk).2
          have H5 : Hid (wr.heap.size ≤ w5.heap.size) := C5.out.size
          have A6 : Hid ((Value.slice q6 (j + 1) c6).ownBlock = u3.ownBlock ∨ (Value.slice q6 (j + 1) c6).ownBlock = some (w5.heap.size + 1)) := by
            rcases at6 with q | q
            · exact .inl q
            · exact .inr (by rw [q]; simp)
          have H3 : Hid (wr.heap.size < w3.heap.size) := ln
          go_roundw
          case rel =>
            refine ⟨j + 1, L ++ [⟨y, .slice q2 y.attrs.length c2, .slice q4 y.kids.length c4⟩], by omega, by go_num, ?_⟩
            refine ⟨HD.out.1.push (((C5.out.mono (fun k q r => by have := List.mem_singleton.1 q; omega))).trans G6.out) ?_ ?_ ?_ ?_ ?_ ?_, ?_, ?_⟩
            · rw [LL.out]
              show w6.ownsRow B _ 5 _ (j + 1) (cellsV L ++ [.string y.name, .string y.text, _, .int .i64 y.parent, _])
              rw [hy0.out, hy1.out, hy3.out]; exact own6
            · exact owns_kept O5a.out G6.out (fun k hk q => by have := (B5a.out k hk).1; have := U3.out k (opt_mem.1 q); omega)
            · exact owns_kept O5k.out G6.out (fun k hk q => by have := (B5.out k hk).1; have := U3.out k (opt_mem.1 q); have := H3.out; omega)
            · show ((Value.slice q2 y.attrs.length c2).ownBlock.toList ++ (Value.slice q4 y.kids.length c4).ownBlock.toList).Nodup
              rw [List.nodup_append]
              refine ⟨by cases (Value.slice q2 y.attrs.length c2).ownBlock <;> simp, by cases (Value.slice q4 y.kids.length c4).ownBlock <;> simp, fun a ha b hb e => ?_⟩
              have := (B5a.out a (opt_mem.1 ha)).2.1
              have := (B5.out b (opt_mem.1 hb)).1
              omega
            · intro k hk
              have hk : k ∈ (Value.slice q2 y.attrs.length c2).ownBlock.toList ++ (Value.slice q4 y.kids.length c4).ownBlock.toList := hk
              have M : wr.heap.size ≤ k ∧ k < w5.heap.size := by
                have := H3.out
                rcases List.mem_append.1 hk with q | q
                · have := B5a.out k (opt_mem.1 q); omega
                · have := B5.out k (opt_mem.1 q); omega
              refine ⟨M.1, fun e => ?_⟩
              rcases A6.out with q | q
              · rw [q] at e; have := U3.out k e; omega
              · rw [q] at e; have := Option.some.inj e; omega
            · rcases A6.out with q | q
              · exact .inl q
              · exact .inr (fun k hk => by rw [q] at hk; have := Option.some.inj hk; have := H5.out; omega)
            · unfold ndsOf
              rw [List.map_append]
              have e := HD.out.2.1
              unfold ndsOf at e
              rw [e, List.take_succ_eq_append_getElem h, hy.out]
              rfl
            · exact HD.out.2.2.trans (((C5.out.mono (S' := u3.ownBlock.toList) (fun k q r => by have := List.mem_singleton.1 q; omega)).trans G6.out).below Bw (fun k q => (HD.out.1.row.lt k (opt_mem.1 q)).1))
          case measure => simp [intOf]; omega
    · obtain rfl : j = l.length := by omega
      clear hv h SZ
      go_wp2_with fail
      go_ret
      refine ⟨_, L, rfl, HD.out.1, ?_, HD.out.2.2⟩
      rw [HD.out.2.1, List.take_length]
end Go.Proofs.YtldbaoolddlacaaDoor

namespace Go.Proofs.YtldbaoolddlacaaDoor
open Go.RowKit
set_option maxRecDepth 100000
set_option maxHeartbeats 8000000 in
theorem refTog_any (v : Value) (l : List Nd) (a b : Nat) (w : World) (hv : NodesV w v l) (hz : DocSz l) (hR : Right l) (ha : a < l.length) (hb : b < l.length) :
    Calls Tryd.prog 22 #[v, .int .i64 (a : Int), .int .i64 (b : Int)] w fun e w' => e = .returned (.bool (togB l (a : Int) (b : Int))) ∧ Below w.heap.size w w' := by
  have HV := hide hv
  have HFa := hide (fun W (hb : Below w.heap.size w W) => refForm_any v l (a : Int) W (HV.out.below hb) hz)
  have HFb := hide (fun W (hb : Below w.heap.size w W) => refForm_any v l (b : Int) W (HV.out.below hb) hz)
  have HTa := hide (fun W (hb : Below w.heap.size w W) => refTop_any v l (a : Int) a W (HV.out.below hb) ⟨hR, rfl, ha⟩)
  have HTb := hide (fun W (hb' : Below w.heap.size w W) => refTop_any v l (b : Int) b W (HV.out.below hb') ⟨hR, rfl, hb⟩)
  obtain ⟨p, c, rfl, hv⟩ := hv
  obtain ⟨g, o, rfl, hn⟩ : ∃ b o, p = some ⟨b, o, none⟩ ∧ ∀ i (h : i < l.length), ∃ va vk, NodeAt w b (o + i * 5) l[i] va vk := by
    rcases hv with t | t
    · rw [t] at ha; simp at ha
    · exact t
  obtain ⟨va, vk, Na⟩ := hn a ha
  obtain ⟨vb, vl, Nb⟩ := hn b hb
  have ca := Na.attrs
  have cb := Nb.attrs
  have HA := hide (fun W (hb : Below w.heap.size w W) => refAttrS_any va l[a].attrs oNam W (Na.at_.below hb) (hz.nds _ (List.getElem_mem ha)).attrs)
  have HB := hide (fun W (hb' : Below w.heap.size w W) => refAttrS_any vb l[b].attrs oNam W (Nb.at_.below hb') (hz.nds _ (List.getElem_mem hb)).attrs)
  have EA : fndS l[a].attrs oNam = nmA l (a : Int) := by unfold nmA; rw [Int.toNat_natCast, nd_at ha]
  have EB : fndS l[b].attrs oNam = nmA l (b : Int) := by unfold nmA; rw [Int.toNat_natCast, nd_at hb]
  rw [EA] at HA
  rw [EB] at HB
  have EQ : Hid (togB l (a : Int) (b : Int) = (decide ((a : Int) = (b : Int)) || togC l (a : Int) (b : Int))) := rfl
  have EC : Hid (togC l (a : Int) (b : Int) = (!decide ((nmA l (a : Int)).size = 0) && (decide (nmA l (a : Int) = nmA l (b : Int)) && (decide (formP l (a : Int) = formP l (b : Int)) && decide (topP l (a : Int) = topP l (b : Int)))))) := rfl
  obtain ⟨pa, qa, rfl, hxx⟩ := Na.at_
  clear hxx
  obtain ⟨pb, qb, rfl, hxx⟩ := Nb.at_
  clear hxx
  have a0 : (0 : Int) ≤ (a : Int) := by omega
  have a1 : (a : Int) < (l.length : Int) := by omega
  have b0 : (0 : Int) ≤ (b : Int) := by omega
  have b1 : (b : Int) < (l.length : Int) := by omega
  rw [show oNam = ⟨#[110, 97, 109, 101]⟩ from rfl] at HA HB
  clear hn Na Nb hz hR EA EB HV hv
  generalize (findA l[a].attrs ⟨#[110, 97, 109, 101]⟩).isSome = ja at *
  generalize (findA l[b].attrs ⟨#[110, 97, 109, 101]⟩).isSome = jb at *
  generalize togB l (a : Int) (b : Int) = R0 at *
  generalize togC l (a : Int) (b : Int) = R1 at *
  generalize nmA l (a : Int) = na at *
  generalize nmA l (b : Int) = nb at *
  generalize formP l (a : Int) = fa at *
  generalize formP l (b : Int) = fb at *
  generalize topP l (a : Int) = ta at *
  generalize topP l (b : Int) = tb at *
  generalize l[a].attrs.length = xa at *
  generalize l[b].attrs.length = xb at *
  by_cases hab : (a : Int) = (b : Int)
  · have d0 : ((a : Int) == (b : Int)) = true := beq_iff_eq.2 hab
    have E : Hid (R0 = true) := by show _ = _; rw [EQ.out, decide_eq_true hab]; rfl
    clear EQ EC HA HB HFa HFb HTa HTb hab
    go_enter Tryd.func22, Tryd.ntmps22
    go_wp2_with fail
    go_ret
    exact ⟨ret_bool E.out.symm, Below.refl _ _⟩
  · have d0 : ((a : Int) == (b : Int)) = false := beq_eq_false_iff_ne.2 hab
    rw [decide_eq_false hab, Bool.false_or] at EQ
    by_cases hs : na.size = 0
    · have d1 : ((na.size : Int) == 0) = true := beq_iff_eq.2 (by omega)
      have E : Hid (R0 = false) := by show _ = _; rw [EQ.out, EC.out, decide_eq_true hs]; rfl
      clear EQ EC HFa HFb HTa HTb hs
      go_enter Tryd.func22, Tryd.ntmps22
      go_wp2_with fail
      refine (HA.out _ (Below.refl _ _)).mono ?_
      rintro e u ⟨rfl, hu⟩
      obtain rfl : w = u := hu.symm
      go_wp2_with fail
      refine (HB.out _ (Below.refl _ _)).mono ?_
      rintro e u ⟨rfl, hu⟩
      obtain rfl : w = u := hu.symm
      go_wp2_with fail
      go_ret
      exact ⟨ret_bool E.out.symm, Below.refl _ _⟩
    · have d1 : ((na.size : Int) == 0) = false := beq_eq_false_iff_ne.2 (by omega)
      have n0 : ¬ na = ByteArray.empty := fun e => hs (by rw [e]; rfl)
      rw [decide_eq_false hs] at EC
      by_cases hn : na = nb
      · rw [decide_eq_true hn] at EC
        subst hn
        have d2 : (na.toList != na.toList) = false := by simp
        by_cases hf : fa = fb
        · rw [decide_eq_true hf] at EC
          subst hf
          have d3 : (fa == fa) = true := beq_iff_eq.2 rfl
          have E : Hid (R0 = (ta == tb)) := by
            show _ = _
            rw [EQ.out, EC.out]
            show decide (ta = tb) = _
            cases q : (ta == tb) with
            | true => exact decide_eq_true (by simpa using q)
            | false => exact decide_eq_false (by simpa using q)
          clear EQ EC
          go_enter Tryd.func22, Tryd.ntmps22
          go_wp2_with fail
          refine (HA.out _ (Below.refl _ _)).mono ?_
          rintro e u ⟨rfl, hu⟩
          obtain rfl : w = u := hu.symm
          go_wp2_with fail
          refine (HB.out _ (Below.refl _ _)).mono ?_
          rintro e u ⟨rfl, hu⟩
          obtain rfl : w = u := hu.symm
          go_wp2_with fail
          refine (HFa.out _ (Below.refl _ _)).mono ?_
          rintro e w1 ⟨rfl, b1⟩
          go_wp2_with fail
          refine (HFb.out _ b1).mono ?_
          rintro e w2 ⟨rfl, b2⟩
          have bb := chain b1 b2
          go_wp2_with fail
          refine (HTa.out _ bb).mono ?_
          rintro e u ⟨rfl, hu⟩
          obtain rfl : w2 = u := hu.symm
          go_wp2_with fail
          refine (HTb.out _ bb).mono ?_
          rintro e u ⟨rfl, hu⟩
          obtain rfl : w2 = u := hu.symm
          go_wp2_with fail
          go_ret
          exact ⟨ret_bool E.out.symm, bb⟩
        · have d3 : (fa == fb) = false := beq_eq_false_iff_ne.2 hf
          have E : Hid (R0 = false) := by show _ = _; rw [EQ.out, EC.out, decide_eq_false hf]; rfl
          clear EQ EC HTa HTb
          go_enter Tryd.func22, Tryd.ntmps22
          go_wp2_with fail
          refine (HA.out _ (Below.refl _ _)).mono ?_
          rintro e u ⟨rfl, hu⟩
          obtain rfl : w = u := hu.symm
          go_wp2_with fail
          refine (HB.out _ (Below.refl _ _)).mono ?_
          rintro e u ⟨rfl, hu⟩
          obtain rfl : w = u := hu.symm
          go_wp2_with fail
          refine (HFa.out _ (Below.refl _ _)).mono ?_
          rintro e w1 ⟨rfl, b1⟩
          go_wp2_with fail
          refine (HFb.out _ b1).mono ?_
          rintro e w2 ⟨rfl, b2⟩
          have bb := chain b1 b2
          go_wp2_with fail
          go_ret
          exact ⟨ret_bool E.out.symm, bb⟩
      · have d2 : (na.toList != nb.toList) = true := by rw [bne, txt_beq, decide_eq_false hn]; rfl
        have E : Hid (R0 = false) := by show _ = _; rw [EQ.out, EC.out, decide_eq_false hn]; rfl
        have d4 : (na.toList == nb.toList) = false := by rw [txt_beq]; exact decide_eq_false hn
        clear EQ EC HFa HFb HTa HTb hn
        go_enter Tryd.func22, Tryd.ntmps22
        go_wp2_with fail
        refine (HA.out _ (Below.refl _ _)).mono ?_
        rintro e u ⟨rfl, hu⟩
        obtain rfl : w = u := hu.symm
        go_wp2_with fail
        refine (HB.out _ (Below.refl _ _)).mono ?_
        rintro e u ⟨rfl, hu⟩
        obtain rfl : w = u := hu.symm
        go_wp2_with fail
        go_ret
        exact ⟨ret_bool E.out.symm, Below.refl _ _⟩

end Go.Proofs.YtldbaoolddlacaaDoor
