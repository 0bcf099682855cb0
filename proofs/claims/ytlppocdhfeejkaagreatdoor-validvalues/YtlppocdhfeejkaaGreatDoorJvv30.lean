/- The document's Copied of layer 10. The example of layer 15's statements, as their own function lays it in the world. Stage 18's own copied. The program's find, has, the questions of kinds, isOf, firstOf, isRooted, above of layer 16. -/
import Derived.Test.YtlppocdhfeejkaaGreatDoorJvv24
import Derived.Test.YtlppocdhfeejkaaGreatDoorJvv28
import Derived.Test.YtlppocdhfeejkaaGreatDoorJvv29
import Derived.Test.YtlppocdhfeejkaaGreatDoorJvv31
import Derived.Deep.DrawnRows
import Derived.WalkMore

namespace Go.Proofs.YtlppocdhfeejkaaGreatDoor
open Go.RowKit
set_option maxRecDepth 100000
set_option maxHeartbeats 4000000 in
set_option maxRecDepth 100000 in
theorem refCopied_any (v : Value) (l : List Nd) (w : World) (hv : NodesV w v l) (hz : DocSz l) :
    Calls Tryz.prog 16 #[v] w fun e w' => ∃ v' L, e = .returned v' ∧ OwnD w.heap.size w' v' L ∧ ndsOf L = l ∧ Below w.heap.size w w' := by
  obtain ⟨p, c, rfl, hv⟩ := hv
  have hlen := hz.len
  have SZ := hide hz
  clear hz
  generalize hB : w.heap.size = B
  go_enter Tryz.func16, Tryz.ntmps16
  go_wp2_with fail
  go_loopw [3, 4] (fun ov iv wr => ∃ (j : Nat) (L : List NdV), j ≤ l.length ∧ iv = .int .i64 j ∧ Hid (OwnD B wr ov L ∧ ndsOf L = l.take j ∧ Below B w wr)) (fun _ iv _ => l.length - (intOf iv).toNat)
  case atStart => exact ⟨0, [], Nat.zero_le _, rfl, ⟨World.ownsRow_nil w B _ 5, (fun _ q => by cases q), (fun _ q => by cases q), by simp [Value.ownBlock]⟩, by simp [ndsOf], Below.refl _ _⟩
  case round =>
    rename World => wr
    obtain ⟨j, L, hj, rfl, HD⟩ := hrel
    by_cases h : j < l.length
    · have i1 : (j : Int) < (l.length : Int) := by omega
      have i0 : (0 : Int) ≤ (j : Int) := by omega
      rcases hv with hv | ⟨b, o, rfl, hv⟩
      · rw [hv] at h; simp at h
      obtain ⟨va, vk, N0⟩ := hv j h
      have N1 : NodeAt wr b (o + j * 5) l[j] va vk := N0.below (by rw [hB]; exact HD.out.2.2)
      have Bw : B ≤ wr.heap.size := by have := HD.out.2.2.size; omega
      have bl : b < wr.heap.size := World.block_lt_of_cell? _ _ N1.name
      have bn : b ≠ wr.heap.size := by omega
      have bn2 : ¬ wr.heap.size = b := by omega
      have a0 := N1.name
      have a1 := N1.text
      have a3 := N1.parent
      have DB : Hid (∀ w', Chg [wr.heap.size] wr w' → NodeAt w' b (o + j * 5) l[j] va vk) := fun w' hc => N1.below (hc.none (fun k q => by rw [List.mem_singleton.1 q]; exact Nat.le_refl _))
      have HZ := hide (SZ.out.nds l[j] (List.getElem_mem _))
      have LL : Hid (L.length = j) := by
        show _ = _
        have := congrArg List.length HD.out.2.1
        rw [ndsOf_len, List.length_take] at this
        omega
      clear N0 N1 hv SZ
      obtain ⟨y, hy⟩ : ∃ y, Hid (l[j] = y) := ⟨l[j], show l[j] = l[j] from rfl⟩
      rw [hy.out] at a0 a1 a3 DB HZ
      obtain ⟨iA, hA0, hA1, hA2, hA3⟩ := info_parts infoA
      obtain ⟨iI, hI0, hI1, hI2, hI3⟩ := info_parts infoI
      obtain ⟨iN, hN0, hN1, hN2, hN3⟩ := info_parts infoN
      have za := HZ.out.attrs
      have zk := HZ.out.kids
      have OA := cellsA_one y.attrs
      have OK := cellsI_one y.kids
      obtain ⟨y0, hy0⟩ : ∃ y0, Hid (y.name = y0) := ⟨y.name, show y.name = y.name from rfl⟩
      obtain ⟨y1, hy1⟩ : ∃ y1, Hid (y.text = y1) := ⟨y.text, show y.text = y.text from rfl⟩
      obtain ⟨y3, hy3⟩ : ∃ y3, Hid (y.parent = y3) := ⟨y.parent, show y.parent = y.parent from rfl⟩
      rw [hy0.out] at a0
      rw [hy1.out] at a1
      rw [hy3.out] at a3
      go_wp2_with fail
      go_region
      generalize hw1 : (wr.alloc (.cells #[Value.string y0, Value.string y1, Value.slice none 0 0, Value.int IntKind.i64 y3, Value.slice none 0 0] 43)).drew = w1
      have NB1 : Hid (NB w1 wr.heap.size [Value.string y0, Value.string y1, Value.slice none 0 0, Value.int IntKind.i64 y3, Value.slice none 0 0] 43) := by rw [← hw1]; exact (NB.new wr _ _).drew
      have C1 : Hid (Chg [wr.heap.size] wr w1) := by rw [← hw1]; exact ((Chg.alloc wr _).trans (Chg.drew _)).nil
      have s1 : Hid (w1.heap.size = wr.heap.size + 1) := by rw [← hw1]; show (wr.alloc _).heap.size = _; simp
      clear hw1 a0 a1 a3
      have b0 := NB1.out.cell 2 rfl
      have b1 := NB1.out.free 2
      have A2 := (DB.out w1 C1.out).attrs
      have RA := hide (DB.out w1 C1.out).at_.raw
      have HB1 : Hid (B ≤ w1.heap.size) := by show _ ≤ _; rw [s1.out]; omega
      have ln := NB1.out.lt
      go_wp2_with fail
      go_region_law ((refine step_append_raw (by rfl) _ _ _ (by rfl) B 34 iA _ 2 32 Tryz.underlying40 hA0 hA1 hA2 hA3 rfl (by omega) (.slice none 0 0) 0 [] (by rfl) (World.ownsRow_nil _ _ _ _) va y.attrs.length (cellsA y.attrs) (by rfl) RA.out OA (by unfold maxLen; omega) (by omega) HB1.out ?_; intro q2 c2 w2 own2 gr2 at2; have k0 := World.grownBy.cell gr2 (a := ⟨wr.heap.size, 2, none⟩) b0 (by simp [Value.ownBlock]); have k1 := (World.grownBy.frozen_far gr2 ⟨wr.heap.size, 2, none⟩ ln (by simp [Value.ownBlock])).trans b1))
      all_goals
        rw [Nat.zero_add] at own2 at2
        rw [List.nil_append] at own2
        have C2 : Hid (Chg [wr.heap.size] w1 w2) := ((Chg.drew w1).trans (Chg.of_grown gr2)).nil
        have B2 : Hid (∀ k, (Value.slice q2 y.attrs.length c2).ownBlock = some k → k = wr.heap.size + 1 ∧ k < w2.heap.size) := by
          intro k hk
          rcases at2 with q | q
          · rw [q] at hk; cases hk
          · refine ⟨?_, (own2.lt k hk).2⟩
            rw [q] at hk
            have : w1.heap.size = k := Option.some.inj hk
            have := s1.out
            omega
        have N2 : Hid (NB w2 wr.heap.size [Value.string y0, Value.string y1, Value.slice none 0 0, Value.int IntKind.i64 y3, Value.slice none 0 0] 43) := NB1.out.chg ((Chg.drew w1).trans (Chg.of_grown gr2)) (by simp)
        have O2 := hide own2
        clear own2 at2 gr2 k0 k1 b0 b1 A2 RA HB1 ln
        generalize hw3 : w2.setCell ⟨wr.heap.size, 2, none⟩ (Value.slice q2 y.attrs.length c2) = w3
        have NB3 : Hid (NB w3 wr.heap.size [Value.string y0, Value.string y1, Value.slice q2 y.attrs.length c2, Value.int IntKind.i64 y3, Value.slice none 0 0] 43) := by rw [← hw3]; exact N2.out.set 2 _
        have C3' : Hid (Chg [wr.heap.size] w2 w3) := by rw [← hw3]; exact Chg.setB w2 _ _ _
        have C3 : Hid (Chg [wr.heap.size] wr w3) := C1.out.trans (C2.out.trans C3'.out)
        have O3 : Hid (AttrsO B w3 (Value.slice q2 y.attrs.length c2) y.attrs) := owns_kept O2.out C3'.out (fun k hk q => by
          have := (B2.out k hk).1
          have := List.mem_singleton.1 q
          omega)
        have B3 : Hid (∀ k, (Value.slice q2 y.attrs.length c2).ownBlock = some k → k = wr.heap.size + 1 ∧ k < w3.heap.size) := fun k hk => ⟨(B2.out k hk).1, Nat.lt_of_lt_of_le (B2.out k hk).2 C3'.out.size⟩
        clear hw3 N2 NB1 O2 B2 C3' C2 C1 s1
        have b0 := NB3.out.cell 4 rfl
        have b1 := NB3.out.free 4
        have A4 := (DB.out w3 C3.out).kids
        have RK := hide (DB.out w3 C3.out).ks.raw
        have ln := NB3.out.lt
        have HB3 : Hid (B ≤ w3.heap.size) := by show _ ≤ _; omega
        go_wp2_with fail
        go_region_law ((refine step_append_raw (by rfl) _ _ _ (by rfl) B 3 iI _ 1 8 Tryz.underlying41 hI0 hI1 hI2 hI3 rfl (by omega) (.slice none 0 0) 0 [] (by rfl) (World.ownsRow_nil _ _ _ _) vk y.kids.length (cellsI y.kids) (by rfl) RK.out OK (by unfold maxLen; omega) (by omega) HB3.out ?_; intro q4 c4 w4 own4 gr4 at4; have k0 := World.grownBy.cell gr4 (a := ⟨wr.heap.size, 4, none⟩) b0 (by simp [Value.ownBlock]); have k1 := (World.grownBy.frozen_far gr4 ⟨wr.heap.size, 4, none⟩ ln (by simp [Value.ownBlock])).trans b1))
        all_goals
          rw [Nat.zero_add] at own4 at4
          rw [List.nil_append] at own4
          have C4 : Hid (Chg [wr.heap.size] w3 w4) := ((Chg.drew w3).trans (Chg.of_grown gr4)).nil
          have B4 : Hid (∀ k, (Value.slice q4 y.kids.length c4).ownBlock = some k → w3.heap.size ≤ k ∧ k < w4.heap.size) := by
            intro k hk
            rcases at4 with q | q
            · rw [q] at hk; cases hk
            · refine ⟨?_, (own4.lt k hk).2⟩
              rw [q] at hk
              exact Nat.le_of_eq (Option.some.inj hk)
          have N4 : Hid (NB w4 wr.heap.size [Value.string y0, Value.string y1, Value.slice q2 y.attrs.length c2, Value.int IntKind.i64 y3, Value.slice none 0 0] 43) := NB3.out.chg ((Chg.drew w3).trans (Chg.of_grown gr4)) (by simp)
          have O4 := hide own4
          have O3' : Hid (AttrsO B w4 (Value.slice q2 y.attrs.length c2) y.attrs) := owns_kept O3.out ((Chg.drew w3).trans (Chg.of_grown gr4)) (fun k hk q => by simp at q)
          clear own4 at4 gr4 k0 k1 b0 b1 A4 RK HB3
          generalize hw5 : w4.setCell ⟨wr.heap.size, 4, none⟩ (Value.slice q4 y.kids.length c4) = w5
          have NB5 : Hid (NB w5 wr.heap.size [Value.string y0, Value.string y1, Value.slice q2 y.attrs.length c2, Value.int IntKind.i64 y3, Value.slice q4 y.kids.length c4] 43) := by rw [← hw5]; exact N4.out.set 4 _
          have C5' : Hid (Chg [wr.heap.size] w4 w5) := by rw [← hw5]; exact Chg.setB w4 _ _ _
          have C5 : Hid (Chg [wr.heap.size] wr w5) := C3.out.trans (C4.out.trans C5'.out)
          have O5a : Hid (AttrsO B w5 (Value.slice q2 y.attrs.length c2) y.attrs) := owns_kept O3'.out C5'.out (fun k hk q => by
            have := (B3.out k hk).1
            have := List.mem_singleton.1 q
            omega)
          have O5k : Hid (KidsO B w5 (Value.slice q4 y.kids.length c4) y.kids) := owns_kept O4.out C5'.out (fun k hk q => by
            have := (B4.out k hk).1
            have := List.mem_singleton.1 q
            omega)
          have B5 : Hid (∀ k, (Value.slice q4 y.kids.length c4).ownBlock = some k → w3.heap.size ≤ k ∧ k < w5.heap.size) := fun k hk => ⟨(B4.out k hk).1, Nat.lt_of_lt_of_le (B4.out k hk).2 C5'.out.size⟩
          have B5a : Hid (∀ k, (Value.slice q2 y.attrs.length c2).ownBlock = some k → k = wr.heap.size + 1 ∧ k < w3.heap.size ∧ k < w5.heap.size) := fun k hk => ⟨(B3.out k hk).1, (B3.out k hk).2, Nat.lt_of_lt_of_le (B3.out k hk).2 (Nat.le_trans C4.out.size C5'.out.size)⟩
          clear hw5 N4 NB3 O4 O3 O3' B3 B4 C5' C4 C3
          have e0 := NB5.out.cell 0 rfl
          have e1 := NB5.out.cell 1 rfl
          have e2 := NB5.out.cell 2 rfl
          have e3 := NB5.out.cell 3 rfl
          have e4 := NB5.out.cell 4 rfl
          have ln5 := NB5.out.lt
          have C6 : Hid (Chg [wr.heap.size] wr (w5.alloc (.cells #[Value.string y0, Value.string y1, Value.slice q2 y.attrs.length c2, Value.int IntKind.i64 y3, Value.slice q4 y.kids.length c4] 43))) := C5.out.trans (Chg.alloc _ _).nil
          have R6 := hide ((NB.new w5 [Value.string y0, Value.string y1, Value.slice q2 y.attrs.length c2, Value.int IntKind.i64 y3, Value.slice q4 y.kids.length c4] 43).raw 1 5 rfl 1)
          have W6 : Hid (B ≤ (w5.alloc (.cells #[Value.string y0, Value.string y1, Value.slice q2 y.attrs.length c2, Value.int IntKind.i64 y3, Value.slice q4 y.kids.length c4] 43)).heap.size) := by show _ ≤ _; simp; omega
          have OW := hide (owns_kept HD.out.1.row C6.out (fun k hk q => by
            have := (HD.out.1.row.lt k hk).2
            have := List.mem_singleton.1 q
            omega))
          have HL := LL.out
          go_wp2_with (at_builtin; refine wpList_append_raw rfl _ _ _ rfl B 43 iN _ 5 88 Tryz.underlying22 hN0 hN1 hN2 hN3 rfl (by omega) _ L.length (cellsV L) rfl OW.out _ 1 _ rfl R6.out (by simp [Value.oneCell']) (by unfold maxLen; omega) (by omega) W6.out ?_; intro q6 c6 w6 own6 gr6 at6)
          rw [LL.out] at own6 at6
          have G6 : Hid (Chg u3.ownBlock.toList w5 w6) := (Chg.alloc _ _).nil.trans (Chg.of_grown gr6)
          have U3 : Hid (∀ k, u3.ownBlock = some k → k < wr.heap.size) := fun k hk => (HD.out.1.row.lt k hk).2
          have H5 : Hid (wr.heap.size ≤ w5.heap.size) := C5.out.size
          have A6 : Hid ((Value.slice q6 (j + 1) c6).ownBlock = u3.ownBlock ∨ (Value.slice q6 (j + 1) c6).ownBlock = some (w5.heap.size + 1)) := by
            rcases at6 with q | q
            · exact .inl q
            · exact .inr (by rw [q]; simp)
          have H3 : Hid (wr.heap.size < w3.heap.size) := ln
          go_roundw
          case rel =>
            refine ⟨j + 1, L ++ [⟨y, .slice q2 y.attrs.length c2, .slice q4 y.kids.length c4⟩], by omega, by go_num, ?_⟩
            refine ⟨HD.out.1.push (((C5.out.mono (fun k q r => by have := List.mem_singleton.1 q; omega))).trans G6.out) ?_ ?_ ?_ ?_ ?_ ?_, ?_, ?_⟩
            · rw [LL.out]
              show w6.ownsRow B _ 5 _ (j + 1) (cellsV L ++ [.string y.name, .string y.text, _, .int .i64 y.parent, _])
              rw [hy0.out, hy1.out, hy3.out]; exact own6
            · exact owns_kept O5a.out G6.out (fun k hk q => by have := (B5a.out k hk).1; have := U3.out k (opt_mem.1 q); omega)
            · exact owns_kept O5k.out G6.out (fun k hk q => by have := (B5.out k hk).1; have := U3.out k (opt_mem.1 q); have := H3.out; omega)
            · show ((Value.slice q2 y.attrs.length c2).ownBlock.toList ++ (Value.slice q4 y.kids.length c4).ownBlock.toList).Nodup
              rw [List.nodup_append]
              refine ⟨by cases (Value.slice q2 y.attrs.length c2).ownBlock <;> simp, by cases (Value.slice q4 y.kids.length c4).ownBlock <;> simp, fun a ha b hb e => ?_⟩
              have := (B5a.out a (opt_mem.1 ha)).2.1
              have := (B5.out b (opt_mem.1 hb)).1
              omega
            · intro k hk
              have hk : k ∈ (Value.slice q2 y.attrs.length c2).ownBlock.toList ++ (Value.slice q4 y.kids.length c4).ownBlock.toList := hk
              have M : wr.heap.size ≤ k ∧ k < w5.heap.size := by
                have := H3.out
                rcases List.mem_append.1 hk with q | q
                · have := B5a.out k (opt_mem.1 q); omega
                · have := B5.out k (opt_mem.1 q); omega
              refine ⟨M.1, fun e => ?_⟩
              rcases A6.out with q | q
              · rw [q] at e; have := U3.out k e; omega
              · rw [q] at e; have := Option.some.inj e; omega
            · rcases A6.out with q | q
              · exact .inl q
              · exact .inr (fun k hk => by rw [q] at hk; have := Option.some.inj hk; have := H5.out; omega)
            · unfold ndsOf
              rw [List.map_append]
              have e := HD.out.2.1
              unfold ndsOf at e
              rw [e, List.take_succ_eq_append_getElem h, hy.out]
              rfl
            · exact HD.out.2.2.trans (((C5.out.mono (S' := u3.ownBlock.toList) (fun k q r => by have := List.mem_singleton.1 q; omega)).trans G6.out).below Bw (fun k q => (HD.out.1.row.lt k (opt_mem.1 q)).1))
          case measure => simp [intOf]; omega
    · obtain rfl : j = l.length := by omega
      clear hv h SZ
      go_wp2_with fail
      go_ret
      refine ⟨_, L, rfl, HD.out.1, ?_, HD.out.2.2⟩
      rw [HD.out.2.1, List.take_length]
end Go.Proofs.YtlppocdhfeejkaaGreatDoor

namespace Go.Proofs.YtlppocdhfeejkaaGreatDoor
open Go.RowKit
set_option maxRecDepth 100000
theorem ints_nil (w : World) : IntsV w (.slice none 0 0) [] := ⟨none, 0, rfl, .inl rfl⟩
theorem attrs_nilO (w : World) : AttrsV w (.slice none 0 0) [] := ⟨none, 0, rfl, .inl rfl⟩
theorem cap_nilO : CapOK (.slice none 0 0) := fun p n c e => by cases e; exact Nat.le_refl _
/-- A row of states in a block. -/
theorem cts_bk {w : World} {b k : Nat} {C : List Ct} {F : List Value} (h : Bk w b (cellsC C F) 47) (hF : FilesIn w C F) : CtsF w (.slice (some ⟨b, 0, none⟩) C.length k) C F := by
  refine ⟨hF, _, k, rfl, .inr ⟨b, 0, rfl, fun i hi j u hu => ?_⟩⟩
  have hj : j < 10 := (List.getElem?_eq_some_iff.1 hu).1
  rw [Nat.zero_add]
  exact h.cell _ ((cellsC_at hF.len hi hj).trans hu)
theorem bk_next {w : World} {o : Obj} {n : Nat} (h : w.heap.size = n) : (w.alloc o).heap.size = n + 1 := by rw [← h]; simp
theorem Bk.at' {w : World} {cs : List Value} {t : TypeId} {n : Nat} (h : w.heap.size = n) : Bk (w.alloc (.cells cs.toArray t)) n cs t := by rw [← h]; exact Bk.new w cs t
theorem addr_neO {b b' o o' : Nat} (h : b ≠ b') : (⟨b, o, none⟩ : Addr) ≠ ⟨b', o', none⟩ := fun e => h (by cases e; rfl)
theorem belRO {B : Nat} {a w : World} (h : Below B a w) (n : Nat) : Below B a (w.drewN n) := ⟨h.os, h.tape, h.output, h.size, h.block⟩
theorem own_form {B : Nat} {w : World} {v : Value} {L : List NdV} {l : List Nd} (h : OwnD B w v L) (e : ndsOf L = l) : ∃ p c, v = .slice p l.length c := by
  obtain ⟨p, c, q, _⟩ := h.nodes
  rw [e] at q
  exact ⟨p, c, q⟩
theorem CtsO.chg {base : Nat} {S : List Nat} {w w' : World} {v : Value} {C : List Ct} {F : List Value} (h : CtsO base w v C F) (hc : Chg S w w') (hs : ∀ k ∈ S, k < base) : CtsO base w' v C F :=
  ⟨h.len, owns_kept h.row hc (fun k hk q => by have := (h.row.lt k hk).1; have := hs k q; omega)⟩
theorem OwnD.chg {base : Nat} {S : List Nat} {w w' : World} {v : Value} {L : List NdV} (h : OwnD base w v L) (hc : Chg S w w') (hs : ∀ k ∈ S, k < base) : OwnD base w' v L :=
  h.kept hc (fun k q r => by have := (h.lt r).1; have := hs k q; omega)
end Go.Proofs.YtlppocdhfeejkaaGreatDoor

namespace Go.Proofs.YtlppocdhfeejkaaGreatDoor
open Go.RowKit
set_option maxRecDepth 100000
set_option maxHeartbeats 8000000 in
theorem vaCopied_any (nv cv : Value) (l : List Nd) (C : List Ct) (w : World) (hD : DocV w nv cv l C) (hz : DocSz l) (hC : CsOK C) :
    Calls Tryz.prog 6 #[.agg #[nv, cv]] w fun e w' => ∃ nv' cv', e = .returned (.agg #[nv', cv']) ∧ DocV w' nv' cv' l C ∧ Below w.heap.size w w' := by
  obtain ⟨F, hF⟩ := hD.cts
  have H1 := hide (fun W (hb : Below w.heap.size w W) => refCopied_any nv l W (hD.nds.below hb) hz)
  have H2 := hide (fun W (hb : Below w.heap.size w W) => refOCopied_any cv C F W (hF.below hb) hC)
  have FI := hide hF.1
  obtain ⟨pn, kn, rfl⟩ := nds_form hD.nds
  obtain ⟨pc, kc, rfl⟩ := cts_form hD.cts
  have B0 : Hid (Below w.heap.size w ((w.alloc (.cells #[.slice pn l.length kn, .slice pc C.length kc] 25)).alloc (.cells #[.slice none 0 0, .slice none 0 0] 25))) := ((Below.refl _ w).alloc (Nat.le_refl _) _).alloc ((Below.refl _ w).alloc (Nat.le_refl _) (.cells #[.slice pn l.length kn, .slice pc C.length kc] 25)).size _
  have ND := hide ((Bk.new w [.slice pn l.length kn, .slice pc C.length kc] 25).below ((Below.refl _ (w.alloc (.cells #[.slice pn l.length kn, .slice pc C.length kc] 25))).alloc (Nat.le_refl _) (.cells #[.slice none 0 0, .slice none 0 0] 25)))
  have NR : Hid (Bk ((w.alloc (.cells #[.slice pn l.length kn, .slice pc C.length kc] 25)).alloc (.cells #[.slice none 0 0, .slice none 0 0] 25)) (w.heap.size + 1) [.slice none 0 0, .slice none 0 0] 25) := Bk.at' (bk_next rfl)
  clear hD hz hC hF
  go_enter Tryz.func6, Tryz.ntmps6
  go_upto_region 1 with fail
  generalize (w.alloc (.cells #[.slice pn l.length kn, .slice pc C.length kc] 25)).alloc (.cells #[.slice none 0 0, .slice none 0 0] 25) = w0 at *
  have x0 := ND.out.cell 0 rfl
  have x1 := ND.out.cell 1 rfl
  have r0 := NR.out.cell 0 rfl
  have r1 := NR.out.cell 1 rfl
  have s0 := NR.out.free 0
  have s1 := NR.out.free 1
  have l0 : w.heap.size + 1 < w0.heap.size := NR.out.lt
  go_region_held3 (fun w' => w'.cell? ⟨w.heap.size, 0, none⟩ = some (.slice pn l.length kn) ∧ w'.cell? ⟨w.heap.size, 1, none⟩ = some (.slice pc C.length kc)) (first | go_keep | exact ⟨cell_below x0 U1.out, cell_below x1 U1.out⟩ | exact ⟨cell_below x0 U2.out, cell_below x1 U2.out⟩ | exact ⟨(World.cell?_setCell_other _ _ _ _ (addr_neO (Nat.succ_ne_self _))).trans ((World.cell?_setCell_other _ _ _ _ (addr_neO (Nat.succ_ne_self _))).trans (cell_below x0 U2.out)), (World.cell?_setCell_other _ _ _ _ (addr_neO (Nat.succ_ne_self _))).trans ((World.cell?_setCell_other _ _ _ _ (addr_neO (Nat.succ_ne_self _))).trans (cell_below x1 U2.out))⟩)
    (first | (go_at_call 16; refine (H1.out _ (belRO B0.out 1)).mono ?_; rintro e w1 ⟨v1, L1, rfl, o1, e1, b1⟩; have O1 := hide o1; have E1 := hide e1; obtain ⟨p1, k1, rfl⟩ := own_form o1 e1; clear o1 e1; have U1 : Hid (Below w0.heap.size w0 w1) := undrewO b1) | (go_at_call 17; refine (H2.out _ (chain B0.out U1.out)).mono ?_; rintro e w2 ⟨v2, rfl, o2, b2⟩; have O2 := hide o2; obtain ⟨p2, k2, rfl, _⟩ := o2.form; clear o2; have U2 : Hid (Below w0.heap.size w0 w2) := chain U1.out b2; have y0 := cell_below r0 U2.out; have y1 := cell_below r1 U2.out; have z0 := (U2.out.frozen (World.block_lt_of_cell? _ _ r0)).trans s0; have z1 := (U2.out.frozen (World.block_lt_of_cell? _ _ r1)).trans s1))
  go_wp2_with fail
  refine bodyPost_ret (v := .agg #[.slice p1 l.length k1, .slice p2 C.length k2]) (by simp [results, go_sem, y0, y1]) rfl ?_
  have CH : Chg [w.heap.size + 1] w2 ((w2.setCell ⟨w.heap.size + 1, 0, none⟩ (.slice p1 l.length k1)).setCell ⟨w.heap.size + 1, 1, none⟩ (.slice p2 C.length k2)) := (Chg.setB _ _ _ _).trans (Chg.setB _ _ _ _)
  have BF : Below w.heap.size w ((w2.setCell ⟨w.heap.size + 1, 0, none⟩ (.slice p1 l.length k1)).setCell ⟨w.heap.size + 1, 1, none⟩ (.slice p2 C.length k2)) := ((chain B0.out U2.out).setCell (Nat.le_succ _) _).setCell (Nat.le_succ _) _
  have N1 := ((O1.out.below b2).chg CH (fun k q => by rw [List.mem_singleton.1 q]; exact l0)).nodes
  rw [E1.out] at N1
  exact ⟨_, _, rfl, ⟨N1, (O2.out.chg CH (fun k q => by rw [List.mem_singleton.1 q]; have := U1.out.size; omega)).cts (FI.out.below BF)⟩, BF⟩
end Go.Proofs.YtlppocdhfeejkaaGreatDoor

namespace Go.Proofs.YtlppocdhfeejkaaGreatDoor
open Go.RowKit
set_option maxRecDepth 100000
/-- A node that lies in the world, told by its number. -/
theorem node_ofW {w : World} {p : Option Addr} {c : Nat} {l : List Nd} (hv : NodesV w (.slice p l.length c) l) {m : Nat} (hm : m < l.length) : ∃ b o va pk nk ck, p = some ⟨b, o, none⟩ ∧ NodeAt w b (o + m * 5) l[m] va (.slice pk nk ck) := by
  obtain ⟨p', c', e, h⟩ := hv
  cases e
  rcases h with h | ⟨b, o, rfl, h⟩
  · rw [h] at hm; cases hm
  · obtain ⟨va, vk, N⟩ := h m hm
    obtain ⟨pk, ck, rfl, _⟩ := N.ks
    exact ⟨b, o, va, pk, _, ck, rfl, N⟩
theorem nds_formW {w : World} {v : Value} {l : List Nd} (h : NodesV w v l) : ∃ p c, v = .slice p l.length c := by
  obtain ⟨p, c, e, _⟩ := h; exact ⟨p, c, e⟩
theorem ret_fndW {a b : ByteArray} {c d : Bool} (h : a = b) (g : c = d) : Ending.returned (.tuple #[.string a, .bool c]) = .returned (.tuple #[.string b, .bool d]) := by rw [h, g]
set_option maxHeartbeats 4000000 in
theorem owFind1_any (s : ByteArray) (B : Nat) (x : ByteArray × ByteArray) (W : World) (hc : W.cell? ⟨B, 0, none⟩ = some (.string s)) :
    Calls Tryz.prog 246 #[.agg #[.string x.1, .string x.2], .pointer (some ⟨B, 0, none⟩)] W fun e w' => e = .returned (.bool (isN s x)) ∧ Below W.heap.size W w' := by
  have hB := World.block_lt_of_cell? _ _ hc
  have hne : B ≠ W.heap.size := by have : B < W.heap.size := hB; omega
  have E := hide (txt_beq x.1 s)
  unfold isN
  generalize x.1 = a at *
  generalize x.2 = b at *
  generalize hR : decide (a = s) = R at *
  clear hR
  go_enter Tryz.func246, Tryz.ntmps246
  go_wp2_with fail
  go_ret
  exact ⟨ret_bool E.out, (Below.refl _ W).alloc (Nat.le_refl _) _⟩
theorem entersOwFind : ∀ args w, (callFunc 246 args).run Tryz.prog w = .ok (.enter 246 args) w := Go.Proofs.enters_of Tryz.func246 (by kernel_rfl) rfl
set_option maxHeartbeats 4000000 in
theorem owFind_any (n : Nd) (va : Value) (pk : Option Addr) (nk ck : Nat) (s : ByteArray) (w : World) (hv : AttrsV w va n.attrs) (hl : n.attrs.length ≤ 4398046511104) :
    Calls Tryz.prog 201 #[.agg #[.string n.name, .string n.text, va, .int .i64 n.parent, .slice pk nk ck], .string s] w fun e w' => e = .returned (.tuple #[.string (fndS n.attrs s), .bool (hasA n s)]) ∧ Below w.heap.size w w' := by
  have B0 : Hid (Below w.heap.size w ((w.alloc (.cells #[.string n.name, .string n.text, va, .int .i64 n.parent, .slice pk nk ck] 43)).alloc (.cells #[.string s] 9))) := ((Below.refl _ w).alloc (Nat.le_refl _) _).alloc (by simp) _
  have PR : PredA 246 #[.pointer (some ⟨w.heap.size + 1, 0, none⟩)] (isN s) ((w.alloc (.cells #[.string n.name, .string n.text, va, .int .i64 n.parent, .slice pk nk ck] 43)).alloc (.cells #[.string s] 9)) := fun W x hb =>
    owFind1_any s (w.heap.size + 1) x W ((hb.cell (by simp)).trans (by simp))
  have HC := hide (indexFuncA_any va n.attrs (isN s) 246 #[.pointer (some ⟨w.heap.size + 1, 0, none⟩)] entersOwFind ((w.alloc (.cells #[.string n.name, .string n.text, va, .int .i64 n.parent, .slice pk nk ck] 43)).alloc (.cells #[.string s] 9)) (hv.below B0.out) PR hl)
  have HIT := hide (fun k hk (h : n.attrs.findIdx? (isN s) = some k) => fnd_hit (ax := n.attrs) (n := s) (k := k) hk h)
  have MISS := hide (fun (h : n.attrs.findIdx? (isN s) = none) => fnd_miss (ax := n.attrs) (n := s) h)
  clear PR
  unfold hasA
  obtain ⟨p, c, rfl, hk⟩ := hv
  generalize fndS n.attrs s = R1 at *
  generalize (findA n.attrs s).isSome = R2 at *
  generalize n.name = n0 at *
  generalize n.text = n1 at *
  generalize n.parent = n3 at *
  generalize n.attrs = ax at *
  cases h : ax.findIdx? (isN s) with
  | none =>
    have E := hide (MISS.out h)
    rw [h, show findV none = -1 from rfl] at HC
    clear hk HIT MISS h
    go_enter Tryz.func201, Tryz.ntmps201
    go_wp2_with fail
    refine HC.out.mono ?_
    rintro e w1 ⟨rfl, b1⟩
    go_wp2_with fail
    go_ret2
    exact ⟨ret_fndW E.out.1.symm E.out.2.symm, chain B0.out b1⟩
  | some i =>
    obtain ⟨hi, _, _⟩ := List.findIdx?_eq_some_iff_getElem.1 h
    have E := hide (HIT.out i hi h)
    rw [h, show findV (some i) = (i : Int) from rfl] at HC
    have i0 : (0 : Int) ≤ (i : Int) := by omega
    have i1 : (i : Int) < (ax.length : Int) := by omega
    have i2 : ¬ (i : Int) < 0 := by omega
    obtain ⟨b, o, rfl, hc⟩ : ∃ b o, p = some ⟨b, o, none⟩ ∧ ∀ i (h : i < ax.length), w.cell? ⟨b, o + i * 2, none⟩ = some (.string ax[i].1) ∧ w.cell? ⟨b, o + i * 2 + 1, none⟩ = some (.string ax[i].2) := by
      rcases hk with t | t
      · rw [t] at hi; simp at hi
      · exact t
    have c1 := hide (hc i hi).2
    have CN := hide (show ((w.alloc (.cells #[.string n0, .string n1, .slice (some ⟨b, o, none⟩) ax.length c, .int .i64 n3, .slice pk nk ck] 43)).alloc (.cells #[.string s] 9)).cell? ⟨w.heap.size, 2, none⟩ = some (.slice (some ⟨b, o, none⟩) ax.length c) by simp)
    clear hc HIT MISS h
    generalize ax[i].2 = t at *
    go_enter Tryz.func201, Tryz.ntmps201
    go_wp2_with fail
    refine HC.out.mono ?_
    rintro e w1 ⟨rfl, b1⟩
    have y1 := cell_below (cell_below c1.out B0.out) b1
    have y2 := cell_below CN.out b1
    go_wp2_with fail
    go_ret2
    exact ⟨ret_fndW E.out.1.symm E.out.2.symm, chain B0.out b1⟩
set_option maxHeartbeats 4000000 in
theorem owHas_any (n : Nd) (va : Value) (pk : Option Addr) (nk ck : Nat) (s : ByteArray) (w : World) (hv : AttrsV w va n.attrs) (hl : n.attrs.length ≤ 4398046511104) :
    Calls Tryz.prog 148 #[.agg #[.string n.name, .string n.text, va, .int .i64 n.parent, .slice pk nk ck], .string s] w fun e w' => e = .returned (.bool (hasA n s)) ∧ Below w.heap.size w w' := by
  have B0 : Hid (Below w.heap.size w (w.alloc (.cells #[.string n.name, .string n.text, va, .int .i64 n.parent, .slice pk nk ck] 43))) := (Below.refl _ w).alloc (Nat.le_refl _) _
  have HC := hide (owFind_any n va pk nk ck s (w.alloc (.cells #[.string n.name, .string n.text, va, .int .i64 n.parent, .slice pk nk ck] 43)) (hv.below B0.out) hl)
  clear hl
  generalize fndS n.attrs s = R1 at *
  generalize hasA n s = R2 at *
  obtain ⟨p, c, rfl, hxx⟩ := hv
  clear hxx
  generalize n.name = n0 at *
  generalize n.text = n1 at *
  generalize n.parent = n3 at *
  generalize n.attrs.length = n5 at *
  go_enter Tryz.func148, Tryz.ntmps148
  go_wp2_with fail
  refine HC.out.mono ?_
  rintro e w1 ⟨rfl, b1⟩
  go_wp2_with fail
  go_ret
  exact ⟨rfl, chain B0.out b1⟩
/-- A function value that answers a question of kinds. -/
structure SuchF (g : Nat) (q : Int → Bool) : Prop where
  ent : ∀ args w, (callFunc g args).run Tryz.prog w = .ok (.enter g args) w
  ans : ∀ (k : Int) (W : World), Calls Tryz.prog g #[.int .i64 k] W fun e w' => e = .returned (.bool (q k)) ∧ w' = W
set_option maxHeartbeats 4000000 in
theorem owisLegend_any (k : Int) (w : World) :
    Calls Tryz.prog 150 #[.int .i64 k] w fun e w' => e = .returned (.bool (is34 k)) ∧ w' = w := by
  go_enter Tryz.func150, Tryz.ntmps150
  go_wp2_with fail
  go_ret
  exact ⟨rfl, rfl⟩
theorem suisLegend : SuchF 150 is34 := ⟨Go.Proofs.enters_of Tryz.func150 (by kernel_rfl) rfl, owisLegend_any⟩
set_option maxHeartbeats 4000000 in
theorem owisFieldset_any (k : Int) (w : World) :
    Calls Tryz.prog 152 #[.int .i64 k] w fun e w' => e = .returned (.bool (is29 k)) ∧ w' = w := by
  go_enter Tryz.func152, Tryz.ntmps152
  go_wp2_with fail
  go_ret
  exact ⟨rfl, rfl⟩
theorem suisFieldset : SuchF 152 is29 := ⟨Go.Proofs.enters_of Tryz.func152 (by kernel_rfl) rfl, owisFieldset_any⟩
set_option maxHeartbeats 4000000 in
theorem owcanBeDisabled_any (k : Int) (w : World) :
    Calls Tryz.prog 146 #[.int .i64 k] w fun e w' => e = .returned (.bool (disK k)) ∧ w' = w := by
  have HC := hide (submits_any k w)
  unfold disK
  generalize subB k = Bk0 at *
  cases Bk0 with
  | true =>
    go_enter Tryz.func146, Tryz.ntmps146
    go_wp2_with fail
    refine HC.out.mono ?_
    rintro e w1 ⟨rfl, hu⟩
    obtain rfl : w = w1 := hu.symm
    go_wp2_with fail
    go_ret
    exact ⟨rfl, rfl⟩
  | false =>
    go_enter Tryz.func146, Tryz.ntmps146
    go_wp2_with fail
    refine HC.out.mono ?_
    rintro e w1 ⟨rfl, hu⟩
    obtain rfl : w = w1 := hu.symm
    go_wp2_with fail
    go_ret
    exact ⟨rfl, rfl⟩
theorem sucanBeDisabled : SuchF 146 disK := ⟨Go.Proofs.enters_of Tryz.func146 (by kernel_rfl) rfl, owcanBeDisabled_any⟩
set_option maxHeartbeats 4000000 in
theorem owIsOf_any (v : Value) (l : List Nd) (id : Int) (g : Nat) (q : Int → Bool) (hs : SuchF g q) (w : World) (hv : NodesV w v l) (hz : DocSz l) (hT : KTabs w) :
    Calls Tryz.prog 145 #[v, .int .i64 id, .func (.func g) #[] #[]] w fun e w' => e = .returned (.bool (okB l q id)) ∧ Below w.heap.size w w' := by
  obtain ⟨p, c, rfl⟩ := nds_formW hv
  have eg := hs.ent
  by_cases h0 : 0 ≤ id
  · by_cases h1 : id < (l.length : Int)
    · obtain ⟨m, rfl⟩ : ∃ m : Nat, id = (m : Int) := ⟨id.toNat, by omega⟩
      have hm : m < l.length := by omega
      obtain ⟨b, o, va, pk, nk, ck, rfl, N⟩ := node_ofW hv hm
      have nz := hz.nds _ (List.getElem_mem hm)
      have HO := hide (of_any l[m] va (.slice pk nk ck) w hT N.at_ nz.attrs nz.tx)
      have HS := hide (fun W => hs.ans (kOf l[m].name (tyOf l[m].attrs)) W)
      have E : Hid (okB l q (m : Int) = q (kOf l[m].name (tyOf l[m].attrs))) := ok_at hm
      obtain ⟨pa, ca, rfl, hxx⟩ := N.at_
      clear hxx
      have c0 := N.name
      have c1 := N.text
      have c2 := N.attrs
      have c3 := N.parent
      have c4 := N.kids
      clear N hv hz hT nz hs
      generalize q (kOf l[m].name (tyOf l[m].attrs)) = R at *
      generalize kOf l[m].name (tyOf l[m].attrs) = kk at *
      generalize l[m].name = n0 at *
      generalize l[m].text = n1 at *
      generalize l[m].parent = n3 at *
      generalize l[m].attrs.length = n5 at *
      go_enter Tryz.func145, Tryz.ntmps145
      go_wp2_with fail
      refine HO.out.mono ?_
      rintro e w1 ⟨rfl, b1⟩
      go_wp2_with fail
      refine (HS.out _).mono ?_
      rintro e w2 ⟨rfl, hu⟩
      obtain rfl : w1 = w2 := hu.symm
      go_wp2_with fail
      go_ret
      exact ⟨ret_bool E.out.symm, b1⟩
    · have E := hide (ok_out (l := l) (q := q) (id := id) (fun t => h1 t.2))
      have d1 : decide (id < (l.length : Int)) = false := decide_eq_false h1
      clear hv hz hT hs
      go_enter Tryz.func145, Tryz.ntmps145
      go_wp2_with fail
      go_ret
      exact ⟨ret_bool E.out.symm, Below.refl _ _⟩
  · have E := hide (ok_out (l := l) (q := q) (id := id) (fun t => h0 t.1))
    have d0 : decide (0 ≤ id) = false := decide_eq_false h0
    clear hv hz hT hs
    go_enter Tryz.func145, Tryz.ntmps145
    go_wp2_with fail
    go_ret
    exact ⟨ret_bool E.out.symm, Below.refl _ _⟩
set_option maxHeartbeats 4000000 in
theorem owFirstOf_any (v vk : Value) (l : List Nd) (ks : List Int) (g : Nat) (q : Int → Bool) (hs : SuchF g q) (w : World) (hv : NodesV w v l) (hk : IntsV w vk ks) (hz : DocSz l) (hT : KTabs w) (hl : ks.length ≤ 17592186044416) :
    Calls Tryz.prog 149 #[v, vk, .func (.func g) #[] #[]] w fun e w' => e = .returned (.int .i64 (firB l q ks)) ∧ Below w.heap.size w w' := by
  have HI := hide (fun id W (hb : Below w.heap.size w W) => owIsOf_any v l id g q hs W (hv.below hb) hz (hT.below hb))
  have IV := hide hk
  obtain ⟨p, c, rfl⟩ := nds_formW hv
  obtain ⟨pk, ck, rfl, _⟩ := hk
  obtain ⟨RES, hRES⟩ : ∃ R : Int, firB l q ks = R := ⟨_, rfl⟩
  have EL : Hid (RES = (ks.find? (okB l q)).getD (-1)) := hRES.symm
  rw [hRES]
  clear hRES hv hz hT hs
  go_enter Tryz.func149, Tryz.ntmps149
  go_wp2_with fail
  go_loopw [11] (fun iv wr => ∃ k : Nat, k ≤ ks.length ∧ iv = .int .i64 k ∧ Hid (RES = ((ks.drop k).find? (okB l q)).getD (-1)) ∧ Hid (Below w.heap.size w wr)) (fun iv _ => ks.length - (intOf iv).toNat)
  case atStart => exact ⟨0, Nat.zero_le _, rfl, by show _ = _; rw [List.drop_zero]; exact EL.out, Below.refl _ _⟩
  case round =>
    rename World => wr
    obtain ⟨k, hk, rfl, HE, BW⟩ := hrel
    by_cases g : k < ks.length
    · have k1 : (k : Int) < (ks.length : Int) := by omega
      have k0 : (0 : Int) ≤ (k : Int) := by omega
      obtain ⟨pa', ca', eva, hav⟩ := IV.out.below BW.out
      cases eva
      rcases hav with hav | ⟨b2, o2, rfl, hav⟩
      · rw [hav] at g; simp at g
      have x0 := hav k g
      have FN := hide (find_noW (p := okB l q) g)
      have FY := hide (find_yesW (p := okB l q) g)
      have HQ := hide (HI.out ks[k] wr BW.out)
      clear hav HI EL
      cases lb : okB l q ks[k] with
      | false =>
        have E1 : Hid (RES = ((ks.drop (k + 1)).find? (okB l q)).getD (-1)) := by show _ = _; rw [HE.out, FN.out lb]
        rw [lb] at HQ
        clear FN FY HE lb
        generalize ks[k] = z at *
        go_wp2_with fail
        refine HQ.out.mono ?_
        rintro e w1 ⟨rfl, b1⟩
        go_wp2_with fail
        go_round
        case rel => exact ⟨k + 1, by omega, by go_num, E1, chain BW.out b1⟩
        case measure => simp [intOf]; omega
      | true =>
        have E1 : Hid (RES = ks[k]) := by show _ = _; rw [HE.out, FY.out lb]; rfl
        rw [lb] at HQ
        clear FN FY HE lb
        generalize ks[k] = z at *
        go_wp2_with fail
        refine HQ.out.mono ?_
        rintro e w1 ⟨rfl, b1⟩
        go_wp2_with fail
        go_ret
        exact ⟨ret_int E1.out.symm, chain BW.out b1⟩
    · obtain rfl : k = ks.length := by omega
      have E1 : Hid (RES = -1) := by show _ = _; rw [HE.out, List.drop_length]; rfl
      clear HI EL HE
      go_wp2_with fail
      go_ret
      exact ⟨ret_int E1.out.symm, BW.out⟩
set_option maxHeartbeats 4000000 in
theorem owAbove_any (v : Value) (l : List Nd) (m0 : Nat) (g : Nat) (q : Int → Bool) (hs : SuchF g q) (g2 : Nat) (lb : Array Value) (eg2 : ∀ args w, (callFunc g2 args).run Tryz.prog w = .ok (.enter g2 args) w) (h : Int → Int → Bool) (w : World) (hh : ∀ (a b : Nat), a < l.length → b < l.length → ∀ W, Below w.heap.size w W → Calls Tryz.prog g2 (#[.int .i64 (a : Int), .int .i64 (b : Int)] ++ lb) W fun e w' => e = .returned (.bool (h a b)) ∧ Below W.heap.size W w') (hv : NodesV w v l) (hz : DocSz l) (hT : KTabs w) (hR : Right l) (h0 : m0 < l.length) :
    Calls Tryz.prog 151 #[v, .int .i64 (m0 : Int), .func (.func g) #[] #[], .func (.func g2) #[] lb] w fun e w' => e = .returned (.int .i64 (abvP l q h (m0 : Int))) ∧ Below w.heap.size w w' := by
  have HI := hide (fun id W (hb : Below w.heap.size w W) => owIsOf_any v l id g q hs W (hv.below hb) hz (hT.below hb))
  have HH := hide hh
  have HRt := hide hR
  have HC := hide (fun m hm W (hb : Below w.heap.size w W) => by
    obtain ⟨p, c, e⟩ := nds_formW hv
    have := hv.below hb
    rw [e] at this
    exact (⟨p, c, e, node_ofW (m := m) this hm⟩ : ∃ p c, v = .slice p l.length c ∧ ∃ b o va pk nk ck, p = some ⟨b, o, none⟩ ∧ NodeAt W b (o + m * 5) l[m] va (.slice pk nk ck)))
  obtain ⟨p, c, rfl⟩ := nds_formW hv
  obtain ⟨RES, hRES⟩ : ∃ R : Int, abvP l q h (m0 : Int) = R := ⟨_, rfl⟩
  rw [hRES]
  have EL : Hid (abvP l q h (m0 : Int) = RES) := hRES
  obtain ⟨p', c', e', b, o, va, pk, nk, ck, rfl, N0⟩ := HC.out m0 h0 w (Below.refl _ _)
  cases e'
  have a3 := N0.parent
  have m1 : (m0 : Int) < (l.length : Int) := by omega
  have m0' : (0 : Int) ≤ (m0 : Int) := by omega
  have P0 : Hid (parI l (m0 : Int) = l[m0].parent) := parI_nat h0
  clear hh hRES hv hz hT hs hR N0
  generalize l[m0].parent = pr0 at *
  go_enter Tryz.func151, Tryz.ntmps151
  go_wp2_with fail
  go_step3
  go_wp2_with fail
  go_step3
  go_wp2_with fail
  go_loopw [9, 10] (fun av bv wr => ∃ m : Nat, m < l.length ∧ bv = .int .i64 (m : Int) ∧ av = .int .i64 (parI l (m : Int)) ∧ Hid (abvP l q h (m : Int) = RES) ∧ Hid (Below w.heap.size w wr)) (fun av bv _ => hgt l (intOf bv))
  case atStart => exact ⟨m0, h0, rfl, by rw [P0.out], EL, Below.refl _ _⟩
  case round =>
    rename World => wr
    obtain ⟨m, hm, rfl, rfl, HE, BW⟩ := hrel
    have he := HRt.out.ende (show (m : Int) < (l.length : Int) by omega)
    have HHg := hide (hgt_up he (by omega))
    have pb := HRt.out.par m hm
    rw [nd_at hm] at pb
    have pI : parI l (m : Int) = l[m].parent := parI_nat hm
    rw [← pI] at pb
    by_cases q1 : parI l (m : Int) = -1
    · have E1 : Hid (RES = -1) := by show _ = _; rw [← HE.out]; exact abv_top he (by omega) (by omega)
      have f2 : (parI l (m : Int) == -1) = true := by rw [q1]; rfl
      clear HI HH HC HE EL P0 pI pb HHg he
      rw [q1]
      clear q1 f2
      go_wp2_with fail
      try rw [Exit.noGoto_ret]
      go_ret
      exact ⟨ret_int E1.out.symm, BW.out⟩
    · obtain ⟨n, en⟩ : ∃ n : Nat, parI l (m : Int) = (n : Int) := ⟨(parI l (m : Int)).toNat, by omega⟩
      have hn : n < l.length := by omega
      have f2 : ((n : Int) == -1) = false := by rw [beq_eq_false_iff_ne]; omega
      have f3 : ¬ (n : Int) = -1 := by omega
      have HQ := hide (HI.out (n : Int) wr BW.out)
      obtain ⟨p2, c2, e2, b2, o2, va2, pk2, nk2, ck2, ep, N2⟩ := HC.out n hn wr BW.out
      cases e2
      cases ep
      have n0 : (0 : Int) ≤ (n : Int) := by omega
      have n1 : (n : Int) < (l.length : Int) := by omega
      have P2 : Hid (parI l (n : Int) = l[n].parent) := parI_nat hn
      have MS : Hid (hgt l (n : Int) < hgt l (m : Int)) := by have := HHg.out; rw [en] at this; show _ < _; omega
      have HIT : Hid (okB l q (n : Int) = true → h (n : Int) (m : Int) = true → RES = (n : Int)) := fun t1 t2 => by rw [← HE.out, ← en]; exact abv_hit he (by omega) (by rw [en]; exact t1) (by rw [en]; exact t2)
      have UP : Hid ((okB l q (n : Int) && h (n : Int) (m : Int)) = false → abvP l q h (n : Int) = RES) := fun t => by rw [← HE.out, ← en]; exact abv_up he (by omega) (by rw [en]; exact t)
      rw [en]
      have HHn := hide (fun W hb => HH.out n m hn hm W hb)
      clear HI HH HC HE EL P0 pI pb HHg he q1 en
      cases ok : okB l q (n : Int) with
      | false =>
        rw [ok] at HQ
        have UPn := hide (UP.out (by rw [ok]; rfl))
        clear HIT UP ok
        go_wp2_with fail
        refine HQ.out.mono ?_
        rintro e w1 ⟨rfl, b1⟩
        have a5 := (N2.below b1).parent
        go_wp2_with fail
        go_round
        case rel => exact ⟨n, hn, rfl, by rw [P2.out], UPn, chain BW.out b1⟩
        case measure => exact MS.out
      | true =>
        rw [ok] at HQ
        cases hd : h (n : Int) (m : Int) with
        | true =>
          rw [hd] at HHn
          have R1 := hide (HIT.out ok hd)
          clear HIT UP ok hd
          go_wp2_with fail
          refine HQ.out.mono ?_
          rintro e w1 ⟨rfl, b1⟩
          go_wp2_with fail
          refine (HHn.out _ (chain BW.out b1)).mono ?_
          rintro e w2 ⟨rfl, b2⟩
          go_wp2_with fail
          try rw [Exit.noGoto_ret]
          go_ret
          exact ⟨ret_int R1.out.symm, chain (chain BW.out b1) b2⟩
        | false =>
          rw [hd] at HHn
          have UPn := hide (UP.out (by rw [ok, hd]; rfl))
          clear HIT UP ok hd
          go_wp2_with fail
          refine HQ.out.mono ?_
          rintro e w1 ⟨rfl, b1⟩
          go_wp2_with fail
          refine (HHn.out _ (chain BW.out b1)).mono ?_
          rintro e w2 ⟨rfl, b2⟩
          have a5 := ((N2.below b1).below b2).parent
          go_wp2_with fail
          go_round
          case rel => exact ⟨n, hn, rfl, by rw [P2.out], UPn, chain (chain BW.out b1) b2⟩
          case measure => exact MS.out

end Go.Proofs.YtlppocdhfeejkaaGreatDoor
