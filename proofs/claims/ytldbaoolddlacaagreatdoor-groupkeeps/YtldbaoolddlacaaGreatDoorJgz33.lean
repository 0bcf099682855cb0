/- The document's Copied of layer 10. The example of layer 15's statements, as their own function lays it in the world. The document's Together, Members of layer 17. The document's Settle, One of layer 17. Stage 17's own copied. -/
import Derived.Test.YtldbaoolddlacaaGreatDoorJgz25
import Derived.Test.YtldbaoolddlacaaGreatDoorJgz31
import Derived.Test.YtldbaoolddlacaaGreatDoorJgz32
import Derived.Test.YtldbaoolddlacaaGreatDoorJgz34
import Derived.Test.YtldbaoolddlacaaGreatDoorJgz35
import Derived.Deep.DrawnRows

namespace Go.Proofs.YtldbaoolddlacaaGreatDoor
open Go.RowKit
set_option maxRecDepth 100000
set_option maxHeartbeats 4000000 in
set_option maxRecDepth 100000 in
theorem refCopied_any (v : Value) (l : List Nd) (w : World) (hv : NodesV w v l) (hz : DocSz l) :
    Calls Tryz.prog 21 #[v] w fun e w' => ∃ v' L, e = .returned v' ∧ OwnD w.heap.size w' v' L ∧ ndsOf L = l ∧ Below w.heap.size w w' := by
  obtain ⟨p, c, rfl, hv⟩ := hv
  have hlen := hz.len
  have SZ := hide hz
  clear hz
  generalize hB : w.heap.size = B
  go_enter Tryz.func21, Tryz.ntmps21
  go_wp2_with fail
  go_loopw [3, 4] (fun ov iv wr => ∃ (j : Nat) (L : List NdV), j ≤ l.length ∧ iv = .int .i64 j ∧ Hid (OwnD B wr ov L ∧ ndsOf L = l.take j ∧ Below B w wr)) (fun _ iv _ => l.length - (intOf iv).toNat)
  case atStart => exact ⟨0, [], Nat.zero_le _, rfl, ⟨World.ownsRow_nil w B _ 5, (fun _ q => by cases q), (fun _ q => by cases q), by simp [Value.ownBlock]⟩, by simp [ndsOf], Below.refl _ _⟩
  case round =>
    rename World => wr
    obtain ⟨j, L, hj, rfl, HD⟩ := hrel
    by_cases h : j < l.length
    · have i1 : (j : Int) < (l.length : Int) := by omega
      have i0 : (0 : Int) ≤ (j : Int) := by omega
      rcases hv with hv | ⟨b, o, rfl, hv⟩
      · rw [hv] at h; simp at h
      obtain ⟨va, vk, N0⟩ := hv j h
      have N1 : NodeAt wr b (o + j * 5) l[j] va vk := N0.below (by rw [hB]; exact HD.out.2.2)
      have Bw : B ≤ wr.heap.size := by have := HD.out.2.2.size; omega
      have bl : b < wr.heap.size := World.block_lt_of_cell? _ _ N1.name
      have bn : b ≠ wr.heap.size := by omega
      have bn2 : ¬ wr.heap.size = b := by omega
      have a0 := N1.name
      have a1 := N1.text
      have a3 := N1.parent
      have DB : Hid (∀ w', Chg [wr.heap.size] wr w' → NodeAt w' b (o + j * 5) l[j] va vk) := fun w' hc => N1.below (hc.none (fun k q => by rw [List.mem_singleton.1 q]; exact Nat.le_refl _))
      have HZ := hide (SZ.out.nds l[j] (List.getElem_mem _))
      have LL : Hid (L.length = j) := by
        show _ = _
        have := congrArg List.length HD.out.2.1
        rw [ndsOf_len, List.length_take] at this
        omega
      clear N0 N1 hv SZ
      obtain ⟨y, hy⟩ : ∃ y, Hid (l[j] = y) := ⟨l[j], show l[j] = l[j] from rfl⟩
      rw [hy.out] at a0 a1 a3 DB HZ
      obtain ⟨iA, hA0, hA1, hA2, hA3⟩ := info_parts infoA
      obtain ⟨iI, hI0, hI1, hI2, hI3⟩ := info_parts infoI
      obtain ⟨iN, hN0, hN1, hN2, hN3⟩ := info_parts infoN
      have za := HZ.out.attrs
      have zk := HZ.out.kids
      have OA := cellsA_one y.attrs
      have OK := cellsI_one y.kids
      obtain ⟨y0, hy0⟩ : ∃ y0, Hid (y.name = y0) := ⟨y.name, show y.name = y.name from rfl⟩
      obtain ⟨y1, hy1⟩ : ∃ y1, Hid (y.text = y1) := ⟨y.text, show y.text = y.text from rfl⟩
      obtain ⟨y3, hy3⟩ : ∃ y3, Hid (y.parent = y3) := ⟨y.parent, show y.parent = y.parent from rfl⟩
      rw [hy0.out] at a0
      rw [hy1.out] at a1
      rw [hy3.out] at a3
      go_wp2_with fail
      go_region
      generalize hw1 : (wr.alloc (.cells #[Value.string y0, Value.string y1, Value.slice none 0 0, Value.int IntKind.i64 y3, Value.slice none 0 0] 40)).drew = w1
      have NB1 : Hid (NB w1 wr.heap.size [Value.string y0, Value.string y1, Value.slice none 0 0, Value.int IntKind.i64 y3, Value.slice none 0 0] 40) := by rw [← hw1]; exact (NB.new wr _ _).drew
      have C1 : Hid (Chg [wr.heap.size] wr w1) := by rw [← hw1]; exact ((Chg.alloc wr _).trans (Chg.drew _)).nil
      have s1 : Hid (w1.heap.size = wr.heap.size + 1) := by rw [← hw1]; show (wr.alloc _).heap.size = _; simp
      clear hw1 a0 a1 a3
      have b0 := NB1.out.cell 2 rfl
      have b1 := NB1.out.free 2
      have A2 := (DB.out w1 C1.out).attrs
      have RA := hide (DB.out w1 C1.out).at_.raw
      have HB1 : Hid (B ≤ w1.heap.size) := by show _ ≤ _; rw [s1.out]; omega
      have ln := NB1.out.lt
      go_wp2_with fail
      go_region_law ((refine step_append_raw (by rfl) _ _ _ (by rfl) B 36 iA _ 2 32 Tryz.underlying37 hA0 hA1 hA2 hA3 rfl (by omega) (.slice none 0 0) 0 [] (by rfl) (World.ownsRow_nil _ _ _ _) va y.attrs.length (cellsA y.attrs) (by rfl) RA.out OA (by unfold maxLen; omega) (by omega) HB1.out ?_; intro q2 c2 w2 own2 gr2 at2; have k0 := World.grownBy.cell gr2 (a := ⟨wr.heap.size, 2, none⟩) b0 (by simp [Value.ownBlock]); have k1 := (World.grownBy.frozen_far gr2 ⟨wr.heap.size, 2, none⟩ ln (by simp [Value.ownBlock])).trans b1))
      all_goals
        rw [Nat.zero_add] at own2 at2
        rw [List.nil_append] at own2
        have C2 : Hid (Chg [wr.heap.size] w1 w2) := ((Chg.drew w1).trans (Chg.of_grown gr2)).nil
        have B2 : Hid (∀ k, (Value.slice q2 y.attrs.length c2).ownBlock = some k → k = wr.heap.size + 1 ∧ k < w2.heap.size) := by
          intro k hk
          rcases at2 with q | q
          · rw [q] at hk; cases hk
          · refine ⟨?_, (own2.lt k hk).2⟩
            rw [q] at hk
            have : w1.heap.size = k := Option.some.inj hk
            have := s1.out
            omega
        have N2 : Hid (NB w2 wr.heap.size [Value.string y0, Value.string y1, Value.slice none 0 0, Value.int IntKind.i64 y3, Value.slice none 0 0] 40) := NB1.out.chg ((Chg.drew w1).trans (Chg.of_grown gr2)) (by simp)
        have O2 := hide own2
        clear own2 at2 gr2 k0 k1 b0 b1 A2 RA HB1 ln
        generalize hw3 : w2.setCell ⟨wr.heap.size, 2, none⟩ (Value.slice q2 y.attrs.length c2) = w3
        have NB3 : Hid (NB w3 wr.heap.size [Value.string y0, Value.string y1, Value.slice q2 y.attrs.length c2, Value.int IntKind.i64 y3, Value.slice none 0 0] 40) := by rw [← hw3]; exact N2.out.set 2 _
        have C3' : Hid (Chg [wr.heap.size] w2 w3) := by rw [← hw3]; exact Chg.setB w2 _ _ _
        have C3 : Hid (Chg [wr.heap.size] wr w3) := C1.out.trans (C2.out.trans C3'.out)
        have O3 : Hid (AttrsO B w3 (Value.slice q2 y.attrs.length c2) y.attrs) := owns_kept O2.out C3'.out (fun k hk q => by
          have := (B2.out k hk).1
          have := List.mem_singleton.1 q
          omega)
        have B3 : Hid (∀ k, (Value.slice q2 y.attrs.length c2).ownBlock = some k → k = wr.heap.size + 1 ∧ k < w3.heap.size) := fun k hk => ⟨(B2.out k hk).1, Nat.lt_of_lt_of_le (B2.out k hk).2 C3'.out.size⟩
        clear hw3 N2 NB1 O2 B2 C3' C2 C1 s1
        have b0 := NB3.out.cell 4 rfl
        have b1 := NB3.out.free 4
        have A4 := (DB.out w3 C3.out).kids
        have RK := hide (DB.out w3 C3.out).ks.raw
        have ln := NB3.out.lt
        have HB3 : Hid (B ≤ w3.heap.size) := by show _ ≤ _; omega
        go_wp2_with fail
        go_region_law ((refine step_append_raw (by rfl) _ _ _ (by rfl) B 3 iI _ 1 8 Tryz.underlying38 hI0 hI1 hI2 hI3 rfl (by omega) (.slice none 0 0) 0 [] (by rfl) (World.ownsRow_nil _ _ _ _) vk y.kids.length (cellsI y.kids) (by rfl) RK.out OK (by unfold maxLen; omega) (by omega) HB3.out ?_; intro q4 c4 w4 own4 gr4 at4; have k0 := World.grownBy.cell gr4 (a := ⟨wr.heap.size, 4, none⟩) b0 (by simp [Value.ownBlock]); have k1 := (World.grownBy.frozen_far gr4 ⟨wr.heap.size, 4, none⟩ ln (by simp [Value.ownBlock])).trans b1))
        all_goals
          rw [Nat.zero_add] at own4 at4
          rw [List.nil_append] at own4
          have C4 : Hid (Chg [wr.heap.size] w3 w4) := ((Chg.drew w3).trans (Chg.of_grown gr4)).nil
          have B4 : Hid (∀ k, (Value.slice q4 y.kids.length c4).ownBlock = some k → w3.heap.size ≤ k ∧ k < w4.heap.size) := by
            intro k hk
            rcases at4 with q | q
            · rw [q] at hk; cases hk
            · refine ⟨?_, (own4.lt k hk).2⟩
              rw [q] at hk
              exact Nat.le_of_eq (Option.some.inj hk)
          have N4 : Hid (NB w4 wr.heap.size [Value.string y0, Value.string y1, Value.slice q2 y.attrs.length c2, Value.int IntKind.i64 y3, Value.slice none 0 0] 40) := NB3.out.chg ((Chg.drew w3).trans (Chg.of_grown gr4)) (by simp)
          have O4 := hide own4
          have O3' : Hid (AttrsO B w4 (Value.slice q2 y.attrs.length c2) y.attrs) := owns_kept O3.out ((Chg.drew w3).trans (Chg.of_grown gr4)) (fun k hk q => by simp at q)
          clear own4 at4 gr4 k0 k1 b0 b1 A4 RK HB3
          generalize hw5 : w4.setCell ⟨wr.heap.size, 4, none⟩ (Value.slice q4 y.kids.length c4) = w5
          have NB5 : Hid (NB w5 wr.heap.size [Value.string y0, Value.string y1, Value.slice q2 y.attrs.length c2, Value.int IntKind.i64 y3, Value.slice q4 y.kids.length c4] 40) := by rw [← hw5]; exact N4.out.set 4 _
          have C5' : Hid (Chg [wr.heap.size] w4 w5) := by rw [← hw5]; exact Chg.setB w4 _ _ _
          have C5 : Hid (Chg [wr.heap.size] wr w5) := C3.out.trans (C4.out.trans C5'.out)
          have O5a : Hid (AttrsO B w5 (Value.slice q2 y.attrs.length c2) y.attrs) := owns_kept O3'.out C5'.out (fun k hk q => by
            have := (B3.out k hk).1
            have := List.mem_singleton.1 q
            omega)
          have O5k : Hid (KidsO B w5 (Value.slice q4 y.kids.length c4) y.kids) := owns_kept O4.out C5'.out (fun k hk q => by
            have := (B4.out k hk).1
            have := List.mem_singleton.1 q
            omega)
          have B5 : Hid (∀ k, (Value.slice q4 y.kids.length c4).ownBlock = some k → w3.heap.size ≤ k ∧ k < w5.heap.size) := fun k hk => ⟨(B4.out k hk).1, Nat.lt_of_lt_of_le (B4.out k hk).2 C5'.out.size⟩
          have B5a : Hid (∀ k, (Value.slice q2 y.attrs.length c2).ownBlock = some k → k = wr.heap.size + 1 ∧ k < w3.heap.size ∧ k < w5.heap.size) := fun k hk => ⟨(B3.out k hk).1, (B3.out k hk).2, Nat.lt_of_lt_of_le (B3.out k hk).2 (Nat.le_trans C4.out.size C5'.out.size)⟩
          clear hw5 N4 NB3 O4 O3 O3' B3 B4 C5' C4 C3
          have e0 := NB5.out.cell 0 rfl
          have e1 := NB5.out.cell 1 rfl
          have e2 := NB5.out.cell 2 rfl
          have e3 := NB5.out.cell 3 rfl
          have e4 := NB5.out.cell 4 rfl
          have ln5 := NB5.out.lt
          have C6 : Hid (Chg [wr.heap.size] wr (w5.alloc (.cells #[Value.string y0, Value.string y1, Value.slice q2 y.attrs.length c2, Value.int IntKind.i64 y3, Value.slice q4 y.kids.length c4] 40))) := C5.out.trans (Chg.alloc _ _).nil
          have R6 := hide ((NB.new w5 [Value.string y0, Value.string y1, Value.slice q2 y.attrs.length c2, Value.int IntKind.i64 y3, Value.slice q4 y.kids.length c4] 40).raw 1 5 rfl 1)
          have W6 : Hid (B ≤ (w5.alloc (.cells #[Value.string y0, Value.string y1, Value.slice q2 y.attrs.length c2, Value.int IntKind.i64 y3, Value.slice q4 y.kids.length c4] 40)).heap.size) := by show _ ≤ _; simp; omega
          have OW := hide (owns_kept HD.out.1.row C6.out (fun k hk q => by
            have := (HD.out.1.row.lt k hk).2
            have := List.mem_singleton.1 q
            omega))
          have HL := LL.out
          go_wp2_with (at_builtin; refine wpList_append_raw rfl _ _ _ rfl B 40 iN _ 5 88 Tryz.underlying22 hN0 hN1 hN2 hN3 rfl (by omega) _ L.length (cellsV L) rfl OW.out _ 1 _ rfl R6.out (by simp [Value.oneCell']) (by unfold maxLen; omega) (by omega) W6.out ?_; intro q6 c6 w6 own6 gr6 at6)
          rw [LL.out] at own6 at6
          have G6 : Hid (Chg u3.ownBlock.toList w5 w6) := (Chg.alloc _ _).nil.trans (Chg.of_grown gr6)
          have U3 : Hid (∀ k, u3.ownBlock = some k → k < wr.heap.size) := fun k hk => (HD.out.1.row.lt k hk).2
          have H5 : Hid (wr.heap.size ≤ w5.heap.size) := C5.out.size
          have A6 : Hid ((Value.slice q6 (j + 1) c6).ownBlock = u3.ownBlock ∨ (Value.slice q6 (j + 1) c6).ownBlock = some (w5.heap.size + 1)) := by
            rcases at6 with q | q
            · exact .inl q
            · exact .inr (by rw [q]; simp)
          have H3 : Hid (wr.heap.size < w3.heap.size) := ln
          go_roundw
          case rel =>
            refine ⟨j + 1, L ++ [⟨y, .slice q2 y.attrs.length c2, .slice q4 y.kids.length c4⟩], by omega, by go_num, ?_⟩
            refine ⟨HD.out.1.push (((C5.out.mono (fun k q r => by have := List.mem_singleton.1 q; omega))).trans G6.out) ?_ ?_ ?_ ?_ ?_ ?_, ?_, ?_⟩
            · rw [LL.out]
              show w6.ownsRow B _ 5 _ (j + 1) (cellsV L ++ [.string y.name, .string y.text, _, .int .i64 y.parent, _])
              rw [hy0.out, hy1.out, hy3.out]; exact own6
            · exact owns_kept O5a.out G6.out (fun k hk q => by have := (B5a.out k hk).1; have := U3.out k (opt_mem.1 q); omega)
            · exact owns_kept O5k.out G6.out (fun k hk q => by have := (B5.out k hk).1; have := U3.out k (opt_mem.1 q); have := H3.out; omega)
            · show ((Value.slice q2 y.attrs.length c2).ownBlock.toList ++ (Value.slice q4 y.kids.length c4).ownBlock.toList).Nodup
              rw [List.nodup_append]
              refine ⟨by cases (Value.slice q2 y.attrs.length c2).ownBlock <;> simp, by cases (Value.slice q4 y.kids.length c4).ownBlock <;> simp, fun a ha b hb e => ?_⟩
              have := (B5a.out a (opt_mem.1 ha)).2.1
              have := (B5.out b (opt_mem.1 hb)).1
              omega
            · intro k hk
              have hk : k ∈ (Value.slice q2 y.attrs.length c2).ownBlock.toList ++ (Value.slice q4 y.kids.length c4).ownBlock.toList := hk
              have M : wr.heap.size ≤ k ∧ k < w5.heap.size := by
                have := H3.out
                rcases List.mem_append.1 hk with q | q
                · have := B5a.out k (opt_mem.1 q); omega
                · have := B5.out k (opt_mem.1 q); omega
              refine ⟨M.1, fun e => ?_⟩
              rcases A6.out with q | q
              · rw [q] at e; have := U3.out k e; omega
              · rw [q] at e; have := Option.some.inj e; omega
            · rcases A6.out with q | q
              · exact .inl q
              · exact .inr (fun k hk => by rw [q] at hk; have := Option.some.inj hk; have := H5.out; omega)
            · unfold ndsOf
              rw [List.map_append]
              have e := HD.out.2.1
              unfold ndsOf at e
              rw [e, List.take_succ_eq_append_getElem h, hy.out]
              rfl
            · exact HD.out.2.2.trans (((C5.out.mono (S' := u3.ownBlock.toList) (fun k q r => by have := List.mem_singleton.1 q; omega)).trans G6.out).below Bw (fun k q => (HD.out.1.row.lt k (opt_mem.1 q)).1))
          case measure => simp [intOf]; omega
    · obtain rfl : j = l.length := by omega
      clear hv h SZ
      go_wp2_with fail
      go_ret
      refine ⟨_, L, rfl, HD.out.1, ?_, HD.out.2.2⟩
      rw [HD.out.2.1, List.take_length]
end Go.Proofs.YtldbaoolddlacaaGreatDoor

namespace Go.Proofs.YtldbaoolddlacaaGreatDoor
open Go.RowKit
set_option maxRecDepth 100000
theorem bk_next {w : World} {o : Obj} {n : Nat} (h : w.heap.size = n) : (w.alloc o).heap.size = n + 1 := by rw [← h]; simp
theorem Bk.at' {w : World} {cs : List Value} {t : TypeId} {n : Nat} (h : w.heap.size = n) : Bk (w.alloc (.cells cs.toArray t)) n cs t := by rw [← h]; exact Bk.new w cs t
theorem addr_neO {b b' o o' : Nat} (h : b ≠ b') : (⟨b, o, none⟩ : Addr) ≠ ⟨b', o', none⟩ := fun e => h (by cases e; rfl)
theorem undrewO {w w1 : World} (b : Below (w.drewN 1).heap.size (w.drewN 1) w1) : Below w.heap.size w w1 := ⟨b.os, b.tape, b.output, b.size, b.block⟩
theorem belRO {B : Nat} {a w : World} (h : Below B a w) (n : Nat) : Below B a (w.drewN n) := ⟨h.os, h.tape, h.output, h.size, h.block⟩
theorem own_form {B : Nat} {w : World} {v : Value} {L : List NdV} {l : List Nd} (h : OwnD B w v L) (e : ndsOf L = l) : ∃ p c, v = .slice p l.length c := by
  obtain ⟨p, c, q, _⟩ := h.nodes
  rw [e] at q
  exact ⟨p, c, q⟩
theorem CtsO.chg {base : Nat} {S : List Nat} {w w' : World} {v : Value} {C : List Ct} {F : List Value} (h : CtsO base w v C F) (hc : Chg S w w') (hs : ∀ k ∈ S, k < base) : CtsO base w' v C F :=
  ⟨h.len, owns_kept h.row hc (fun k hk q => by have := (h.row.lt k hk).1; have := hs k q; omega)⟩
theorem OwnD.chg {base : Nat} {S : List Nat} {w w' : World} {v : Value} {L : List NdV} (h : OwnD base w v L) (hc : Chg S w w') (hs : ∀ k ∈ S, k < base) : OwnD base w' v L :=
  h.kept hc (fun k q r => by have := (h.lt r).1; have := hs k q; omega)
end Go.Proofs.YtldbaoolddlacaaGreatDoor

namespace Go.Proofs.YtldbaoolddlacaaGreatDoor
open Go.RowKit
set_option maxRecDepth 100000
set_option maxHeartbeats 8000000 in
theorem refTog_any (v : Value) (l : List Nd) (a b : Nat) (w : World) (hv : NodesV w v l) (hz : DocSz l) (hR : Right l) (ha : a < l.length) (hb : b < l.length) :
    Calls Tryz.prog 43 #[v, .int .i64 (a : Int), .int .i64 (b : Int)] w fun e w' => e = .returned (.bool (togB l (a : Int) (b : Int))) ∧ Below w.heap.size w w' := by
  have HV := hide hv
  have HFa := hide (fun W (hb : Below w.heap.size w W) => refForm_any v l (a : Int) W (HV.out.below hb) hz)
  have HFb := hide (fun W (hb : Below w.heap.size w W) => refForm_any v l (b : Int) W (HV.out.below hb) hz)
  have HTa := hide (fun W (hb : Below w.heap.size w W) => refTop_any v l (a : Int) a W (HV.out.below hb) ⟨hR, rfl, ha⟩)
  have HTb := hide (fun W (hb' : Below w.heap.size w W) => refTop_any v l (b : Int) b W (HV.out.below hb') ⟨hR, rfl, hb⟩)
  obtain ⟨p, c, rfl, hv⟩ := hv
  obtain ⟨g, o, rfl, hn⟩ : ∃ b o, p = some ⟨b, o, none⟩ ∧ ∀ i (h : i < l.length), ∃ va vk, NodeAt w b (o + i * 5) l[i] va vk := by
    rcases hv with t | t
    · rw [t] at ha; simp at ha
    · exact t
  obtain ⟨va, vk, Na⟩ := hn a ha
  obtain ⟨vb, vl, Nb⟩ := hn b hb
  have ca := Na.attrs
  have cb := Nb.attrs
  have HA := hide (fun W (hb : Below w.heap.size w W) => refAttrS_any va l[a].attrs oNam W (Na.at_.below hb) (hz.nds _ (List.getElem_mem ha)).attrs)
  have HB := hide (fun W (hb' : Below w.heap.size w W) => refAttrS_any vb l[b].attrs oNam W (Nb.at_.below hb') (hz.nds _ (List.getElem_mem hb)).attrs)
  have EA : fndS l[a].attrs oNam = nmA l (a : Int) := by unfold nmA; rw [Int.toNat_natCast, nd_at ha]
  have EB : fndS l[b].attrs oNam = nmA l (b : Int) := by unfold nmA; rw [Int.toNat_natCast, nd_at hb]
  rw [EA] at HA
  rw [EB] at HB
  have EQ : Hid (togB l (a : Int) (b : Int) = (decide ((a : Int) = (b : Int)) || togC l (a : Int) (b : Int))) := rfl
  have EC : Hid (togC l (a : Int) (b : Int) = (!decide ((nmA l (a : Int)).size = 0) && (decide (nmA l (a : Int) = nmA l (b : Int)) && (decide (formP l (a : Int) = formP l (b : Int)) && decide (topP l (a : Int) = topP l (b : Int)))))) := rfl
  obtain ⟨pa, qa, rfl, hxx⟩ := Na.at_
  clear hxx
  obtain ⟨pb, qb, rfl, hxx⟩ := Nb.at_
  clear hxx
  have a0 : (0 : Int) ≤ (a : Int) := by omega
  have a1 : (a : Int) < (l.length : Int) := by omega
  have b0 : (0 : Int) ≤ (b : Int) := by omega
  have b1 : (b : Int) < (l.length : Int) := by omega
  rw [show oNam = ⟨#[110, 97, 109, 101]⟩ from rfl] at HA HB
  clear hn Na Nb hz hR EA EB HV hv
  generalize (findA l[a].attrs ⟨#[110, 97, 109, 101]⟩).isSome = ja at *
  generalize (findA l[b].attrs ⟨#[110, 97, 109, 101]⟩).isSome = jb at *
  generalize togB l (a : Int) (b : Int) = R0 at *
  generalize togC l (a : Int) (b : Int) = R1 at *
  generalize nmA l (a : Int) = na at *
  generalize nmA l (b : Int) = nb at *
  generalize formP l (a : Int) = fa at *
  generalize formP l (b : Int) = fb at *
  generalize topP l (a : Int) = ta at *
  generalize topP l (b : Int) = tb at *
  generalize l[a].attrs.length = xa at *
  generalize l[b].attrs.length = xb at *
  by_cases hab : (a : Int) = (b : Int)
  · have d0 : ((a : Int) == (b : Int)) = true := beq_iff_eq.2 hab
    have E : Hid (R0 = true) := by show _ = _; rw [EQ.out, decide_eq_true hab]; rfl
    clear EQ EC HA HB HFa HFb HTa HTb hab
    go_enter Tryz.func43, Tryz.ntmps43
    go_wp2_with fail
    go_ret
    exact ⟨ret_bool E.out.symm, Below.refl _ _⟩
  · have d0 : ((a : Int) == (b : Int)) = false := beq_eq_false_iff_ne.2 hab
    rw [decide_eq_false hab, Bool.false_or] at EQ
    by_cases hs : na.size = 0
    · have d1 : ((na.size : Int) == 0) = true := beq_iff_eq.2 (by omega)
      have E : Hid (R0 = false) := by show _ = _; rw [EQ.out, EC.out, decide_eq_true hs]; rfl
      clear EQ EC HFa HFb HTa HTb hs
      go_enter Tryz.func43, Tryz.ntmps43
      go_wp2_with fail
      refine (HA.out _ (Below.refl _ _)).mono ?_
      rintro e u ⟨rfl, hu⟩
      obtain rfl : w = u := hu.symm
      go_wp2_with fail
      refine (HB.out _ (Below.refl _ _)).mono ?_
      rintro e u ⟨rfl, hu⟩
      obtain rfl : w = u := hu.symm
      go_wp2_with fail
      go_ret
      exact ⟨ret_bool E.out.symm, Below.refl _ _⟩
    · have d1 : ((na.size : Int) == 0) = false := beq_eq_false_iff_ne.2 (by omega)
      have n0 : ¬ na = ByteArray.empty := fun e => hs (by rw [e]; rfl)
      rw [decide_eq_false hs] at EC
      by_cases hn : na = nb
      · rw [decide_eq_true hn] at EC
        subst hn
        have d2 : (na.toList != na.toList) = false := by simp
        by_cases hf : fa = fb
        · rw [decide_eq_true hf] at EC
          subst hf
          have d3 : (fa == fa) = true := beq_iff_eq.2 rfl
          have E : Hid (R0 = (ta == tb)) := by
            show _ = _
            rw [EQ.out, EC.out]
            show decide (ta = tb) = _
            cases q : (ta == tb) with
            | true => exact decide_eq_true (by simpa using q)
            | false => exact decide_eq_false (by simpa using q)
          clear EQ EC
          go_enter Tryz.func43, Tryz.ntmps43
          go_wp2_with fail
          refine (HA.out _ (Below.refl _ _)).mono ?_
          rintro e u ⟨rfl, hu⟩
          obtain rfl : w = u := hu.symm
          go_wp2_with fail
          refine (HB.out _ (Below.refl _ _)).mono ?_
          rintro e u ⟨rfl, hu⟩
          obtain rfl : w = u := hu.symm
          go_wp2_with fail
          refine (HFa.out _ (Below.refl _ _)).mono ?_
          rintro e w1 ⟨rfl, b1⟩
          go_wp2_with fail
          refine (HFb.out _ b1).mono ?_
          rintro e w2 ⟨rfl, b2⟩
          have bb := chain b1 b2
          go_wp2_with fail
          refine (HTa.out _ bb).mono ?_
          rintro e u ⟨rfl, hu⟩
          obtain rfl : w2 = u := hu.symm
          go_wp2_with fail
          refine (HTb.out _ bb).mono ?_
          rintro e u ⟨rfl, hu⟩
          obtain rfl : w2 = u := hu.symm
          go_wp2_with fail
          go_ret
          exact ⟨ret_bool E.out.symm, bb⟩
        · have d3 : (fa == fb) = false := beq_eq_false_iff_ne.2 hf
          have E : Hid (R0 = false) := by show _ = _; rw [EQ.out, EC.out, decide_eq_false hf]; rfl
          clear EQ EC HTa HTb
          go_enter Tryz.func43, Tryz.ntmps43
          go_wp2_with fail
          refine (HA.out _ (Below.refl _ _)).mono ?_
          rintro e u ⟨rfl, hu⟩
          obtain rfl : w = u := hu.symm
          go_wp2_with fail
          refine (HB.out _ (Below.refl _ _)).mono ?_
          rintro e u ⟨rfl, hu⟩
          obtain rfl : w = u := hu.symm
          go_wp2_with fail
          refine (HFa.out _ (Below.refl _ _)).mono ?_
          rintro e w1 ⟨rfl, b1⟩
          go_wp2_with fail
          refine (HFb.out _ b1).mono ?_
          rintro e w2 ⟨rfl, b2⟩
          have bb := chain b1 b2
          go_wp2_with fail
          go_ret
          exact ⟨ret_bool E.out.symm, bb⟩
      · have d2 : (na.toList != nb.toList) = true := by rw [bne, txt_beq, decide_eq_false hn]; rfl
        have E : Hid (R0 = false) := by show _ = _; rw [EQ.out, EC.out, decide_eq_false hn]; rfl
        have d4 : (na.toList == nb.toList) = false := by rw [txt_beq]; exact decide_eq_false hn
        clear EQ EC HFa HFb HTa HTb hn
        go_enter Tryz.func43, Tryz.ntmps43
        go_wp2_with fail
        refine (HA.out _ (Below.refl _ _)).mono ?_
        rintro e u ⟨rfl, hu⟩
        obtain rfl : w = u := hu.symm
        go_wp2_with fail
        refine (HB.out _ (Below.refl _ _)).mono ?_
        rintro e u ⟨rfl, hu⟩
        obtain rfl : w = u := hu.symm
        go_wp2_with fail
        go_ret
        exact ⟨ret_bool E.out.symm, Below.refl _ _⟩
set_option maxHeartbeats 8000000 in
theorem refGMembers_any (v : Value) (l : List Nd) (id : Int) (w : World) (hv : NodesV w v l) (hz : DocSz l) :
    Calls Tryz.prog 24 #[v, .int .i64 id] w fun e w' => ∃ v', e = .returned v' ∧ KidsO w.heap.size w' v' (membersP l id) ∧ Below w.heap.size w w' := by
  have HI := hide (refIs_any v l id 17 w hv hz)
  cases h : isK l id 17 with
  | false =>
    have E : Hid (membersP l id = []) := by show _ = _; unfold membersP; rw [if_neg (by rw [h]; decide)]
    rw [h] at HI
    obtain ⟨p, c, rfl, _⟩ := hv
    clear h hz
    go_enter Tryz.func24, Tryz.ntmps24
    go_wp2_with fail
    refine HI.out.mono ?_
    rintro e w1 ⟨rfl, b1⟩
    go_wp2_with fail
    go_ret
    exact ⟨_, rfl, by rw [E.out]; exact World.ownsRow_nil _ _ _ _, b1⟩
  | true =>
    have hh : hasN l id = true := by unfold isK at h; rw [Bool.and_eq_true] at h; exact h.1
    obtain ⟨m, hI⟩ := Is.of hh
    obtain ⟨rfl, h0⟩ := (⟨hI.eq, hI.lt⟩ : id = (m : Int) ∧ m < l.length)
    have hR := hide hI.right
    have hlen := hI.right.len.2
    obtain ⟨t, et, ht⟩ := top_in hI.right h0
    have EL : Hid (membersP l (m : Int) = (orderP l (t : Int)).filter (memB l (m : Int))) := by show _ = _; unfold membersP; rw [if_pos h, et]
    have few := order_few hI.right ht
    have RNG : Hid (∀ x ∈ orderP l (t : Int), 0 ≤ x ∧ x < (l.length : Int)) := fun x hx => by
      have := (order_mem hI.right (by omega) (by omega) x).1 hx
      exact ⟨this.1, this.2.1⟩
    rw [h] at HI
    have hv' := hide hv
    have HTp := hide (fun W (hb : Below w.heap.size w W) => refTop_any v l (m : Int) m W (hv'.out.below hb) hI)
    rw [et] at HTp
    have HOr := hide (fun W (hb : Below w.heap.size w W) => refOrder_any v l t W (hv'.out.below hb) hR.out ht)
    have HFm := hide (fun (q : Nat) (hq : q < l.length) W (hb : Below w.heap.size w W) => refTog_any v l m q W (hv'.out.below hb) hz hR.out h0 hq)
    have OB : Hid (∀ q : Int, memB l (m : Int) q = (decide (kI l q = 17) && togB l (m : Int) q)) := fun _ => rfl
    obtain ⟨p, c, rfl, hvv⟩ := hv
    obtain ⟨gb, go, rfl, hnn⟩ : ∃ b o, p = some ⟨b, o, none⟩ ∧ ∀ i (h : i < l.length), ∃ va vk, NodeAt w b (o + i * 5) l[i] va vk := by
      rcases hvv with t | t
      · rw [t] at h0; simp at h0
      · exact t
    have HNN := hide hnn
    have HZ := hide hz
    clear hnn hvv
    obtain ⟨iI, hI0, hI1, hI2, hI3⟩ := info_parts infoI
    clear h hh hI hz hv' hR et
    generalize orderP l (t : Int) = ord at *
    generalize memB l (m : Int) = P at *
    go_enter Tryz.func24, Tryz.ntmps24
    go_wp2_with fail
    refine HI.out.mono ?_
    rintro e w1 ⟨rfl, b1⟩
    go_wp2_with fail
    refine (HTp.out _ b1).mono ?_
    rintro e u ⟨rfl, hu⟩
    obtain rfl : w1 = u := hu.symm
    go_wp2_with fail
    refine (HOr.out _ b1).mono ?_
    rintro e w2 ⟨av, rfl, ko, b2⟩
    have IV := hide ko.ints
    have B2 := hide (chain b1 b2)
    obtain ⟨pa, ca, rfl, _⟩ := ko.ints
    clear HOr HI ko b1 b2 HTp
    go_wp2_with fail
    go_loopw [5, 7] (fun ov iv wr => ∃ (k : Nat) (q : Option Addr) (cp : Nat), k ≤ ord.length ∧ iv = .int .i64 k ∧ ov = .slice q ((ord.take k).filter P).length cp ∧ Hid (KidsO w2.heap.size wr (.slice q ((ord.take k).filter P).length cp) ((ord.take k).filter P)) ∧ Hid (Below w2.heap.size w2 wr)) (fun _ iv _ => ord.length - (intOf iv).toNat)
    case atStart => exact ⟨0, none, 0, Nat.zero_le _, rfl, rfl, World.ownsRow_nil _ _ _ _, Below.refl _ _⟩
    case round =>
      rename World => wr
      obtain ⟨k, px, cx, hk, rfl, rfl, KX, BW⟩ := hrel
      have BWW := hide (chain B2.out BW.out)
      by_cases g : k < ord.length
      · have k1 : (k : Int) < (ord.length : Int) := by omega
        have k0 : (0 : Int) ≤ (k : Int) := by omega
        obtain ⟨pa', ca', eva, hav⟩ := IV.out.below BW.out
        cases eva
        rcases hav with hav | ⟨b2, o2, rfl, hav⟩
        · rw [hav] at g; simp at g
        have x0 := hav k g
        have rx := RNG.out ord[k] (List.getElem_mem g)
        obtain ⟨q, eq, hq⟩ := nat_of (z := ord[k]) (n := l.length) (by omega) rx.2
        have EQ := hide eq
        have OBq := OB.out (q : Int)
        rw [eq] at x0
        have FN := hide (filt_no (p := P) g)
        have FY := hide (filt_yes (p := P) g)
        have fl : ((ord.take k).filter P).length ≤ 400 := by have := List.length_filter_le P (ord.take k); rw [List.length_take] at this; omega
        obtain ⟨va, vk, NN⟩ := HNN.out q hq
        have nz := HZ.out.nds _ (List.getElem_mem hq)
        have HKq := hide (fun W (hb : Below w.heap.size w W) => refOf_any l[q] va vk W (NN.at_.below hb) nz.attrs nz.tx)
        have EK : kI l (q : Int) = kOf l[q].name (tyOf l[q].attrs) := by unfold kI kN; rw [Int.toNat_natCast, nd_at hq]
        rw [← EK] at HKq
        have HFq := hide (fun W hb => HFm.out q hq W hb)
        obtain ⟨pva, cva, rfl, hxx⟩ := NN.at_
        clear hxx
        obtain ⟨pvk, cvk, rfl, hxx⟩ := NN.ks
        clear hxx
        have u0 := cell_below NN.name BWW.out
        have u1 := cell_below NN.text BWW.out
        have u2 := cell_below NN.attrs BWW.out
        have u3 := cell_below NN.parent BWW.out
        have u4 := cell_below NN.kids BWW.out
        have q0 : (0 : Int) ≤ (q : Int) := by omega
        have q1 : (q : Int) < (l.length : Int) := by omega
        rw [eq] at FN FY
        clear hav eq rx HFm RNG OB EL NN nz EK HNN HZ
        by_cases lb : kI l (q : Int) = 17
        rotate_left
        · have dk : (kI l (q : Int) == 17) = false := beq_eq_false_iff_ne.2 lb
          rw [decide_eq_false lb, Bool.false_and] at OBq
          have E1 := hide (FN.out OBq)
          clear FN FY OBq lb
          generalize kI l (q : Int) = kq at *
          go_wp2_with fail
          refine (HKq.out _ BWW.out).mono ?_
          rintro e w3 ⟨rfl, b3⟩
          have B3 := hide (chain BWW.out b3)
          have BL3 := hide (chain BW.out b3)
          have KX3 := hide (owns_kept KX.out (Chg.of_below b3) (fun _ _ q => by cases q))
          clear b3
          go_wp2_with fail
          go_roundw
          case rel => exact ⟨k + 1, px, cx, by omega, by go_num, by rw [E1.out], by show KidsO _ _ _ _; rw [E1.out]; exact KX3.out, BL3⟩
          case measure => simp [intOf]; omega
        · have dk : (kI l (q : Int) == 17) = true := beq_iff_eq.2 lb
          rw [decide_eq_true lb, Bool.true_and] at OBq
          rw [lb] at HKq
          cases g2 : togB l (m : Int) (q : Int) with
          | true =>
            rw [g2] at OBq HFq
            have E1 := hide (FY.out OBq)
            clear FN FY OBq lb g2 dk
            generalize (ord.take k).filter P = xs at *
            replace E1 : Hid ((ord.take (k + 1)).filter P = xs ++ [(q : Int)]) := E1
            go_wp2_with fail
            refine (HKq.out _ BWW.out).mono ?_
            rintro e w3 ⟨rfl, b3⟩
            have B3 := hide (chain BWW.out b3)
            have BL3 := hide (chain BW.out b3)
            have KX3 := hide (owns_kept KX.out (Chg.of_below b3) (fun _ _ q => by cases q))
            clear b3
            obtain ⟨pa3, ca3, eva3, hav3⟩ := IV.out.below BL3.out
            cases eva3
            have x3 := (hav3.resolve_left (fun t => by rw [t] at g; simp at g))
            obtain ⟨b3', o3', e3', hav3'⟩ := x3
            cases e3'
            have y0 := hav3' k g
            rw [EQ.out] at y0
            clear hav3 hav3'
            go_wp2_with fail
            refine (HFq.out _ B3.out).mono ?_
            rintro e w4 ⟨rfl, b4⟩
            have BL4 := hide (chain BL3.out b4)
            have KX4 := hide (owns_kept KX3.out (Chg.of_below b4) (fun _ _ q => by cases q))
            obtain ⟨pa4, ca4, eva4, hav4⟩ := IV.out.below BL4.out
            cases eva4
            have x4 := (hav4.resolve_left (fun t => by rw [t] at g; simp at g))
            obtain ⟨b4', o4', e4', hav4'⟩ := x4
            cases e4'
            have y4 := hav4' k g
            rw [EQ.out] at y4
            clear hav4 hav4'
            have Bw : w2.heap.size ≤ w4.heap.size := BL4.out.size
            have OW := hide (World.ownsRow.alloc KX4.out (.cells #[.int .i64 (q : Int)] 3))
            have RW := hide ((NB.new w4 [.int .i64 (q : Int)] 3).raw 1 1 rfl 1)
            have hBa : Hid (w2.heap.size ≤ (w4.alloc (.cells #[.int .i64 (q : Int)] 3)).heap.size) := by show _ ≤ _; simp; omega
            go_wp2_with (at_builtin; refine wpList_append_raw rfl _ _ _ rfl w2.heap.size 3 iI _ 1 8 Tryz.underlying38 hI0 hI1 hI2 hI3 rfl (by omega) _ xs.length (cellsI xs) rfl OW.out _ 1 _ rfl RW.out (by simp [Value.oneCell']) (by unfold maxLen; omega) (by omega) hBa.out ?_; intro q1 c1 w5 own1 gr1 at1)
            have B5 : Hid (Below w2.heap.size w2 w5) := BL4.out.trans (((Chg.alloc w4 _).nil.trans (Chg.of_grown gr1)).below Bw (fun k hk => (OW.out.lt k (opt_mem.1 hk)).1))
            have KX1 : Hid (KidsO w2.heap.size w5 (.slice q1 (xs.length + 1) c1) (xs ++ [(q : Int)])) := by
              show w5.ownsRow _ _ 1 _ (xs ++ [(q : Int)]).length (cellsI (xs ++ [(q : Int)]))
              rw [List.length_append, cellsI_app]
              exact own1
            clear own1 gr1 at1 OW RW hBa
            go_roundw
            case rel => exact ⟨k + 1, q1, c1, by omega, by go_num, by rw [E1.out, List.length_append]; rfl, by show KidsO _ _ _ _; rw [E1.out, List.length_append]; exact KX1.out, B5⟩
            case measure => simp [intOf]; omega
          | false =>
            rw [g2] at OBq HFq
            have E1 := hide (FN.out OBq)
            clear FN FY OBq lb g2 dk
            go_wp2_with fail
            refine (HKq.out _ BWW.out).mono ?_
            rintro e w3 ⟨rfl, b3⟩
            have B3 := hide (chain BWW.out b3)
            have BL3 := hide (chain BW.out b3)
            have KX3 := hide (owns_kept KX.out (Chg.of_below b3) (fun _ _ q => by cases q))
            clear b3
            obtain ⟨pa3, ca3, eva3, hav3⟩ := IV.out.below BL3.out
            cases eva3
            have x3 := (hav3.resolve_left (fun t => by rw [t] at g; simp at g))
            obtain ⟨b3', o3', e3', hav3'⟩ := x3
            cases e3'
            have y0 := hav3' k g
            rw [EQ.out] at y0
            clear hav3 hav3'
            go_wp2_with fail
            refine (HFq.out _ B3.out).mono ?_
            rintro e w4 ⟨rfl, b4⟩
            have BL4 := hide (chain BL3.out b4)
            have KX4 := hide (owns_kept KX3.out (Chg.of_below b4) (fun _ _ q => by cases q))
            go_wp2_with fail
            go_roundw
            case rel => exact ⟨k + 1, px, cx, by omega, by go_num, by rw [E1.out], by show KidsO _ _ _ _; rw [E1.out]; exact KX4.out, BL4⟩
            case measure => simp [intOf]; omega
      · obtain rfl : k = ord.length := by omega
        rw [List.take_length] at KX
        have KX2 : Hid (KidsO w.heap.size wr (.slice px (ord.filter P).length cx) (ord.filter P)) := owns_mono KX.out (by have := B2.out.size; omega)
        rw [List.take_length]
        go_wp2_with fail
        go_ret
        exact ⟨_, rfl, by rw [EL.out]; exact KX2.out, BWW.out⟩
end Go.Proofs.YtldbaoolddlacaaGreatDoor

namespace Go.Proofs.YtldbaoolddlacaaGreatDoor
open Go.RowKit
set_option maxRecDepth 100000
theorem cntK_yes {C : List Ct} {all : List Int} {k : Nat} (h : k < all.length) (hs : (st C all[k]).chk = true) : cntK C (all.take (k + 1)) = cntK C (all.take k) + 1 := by
  unfold cntK
  rw [List.take_succ_eq_append_getElem h, List.filter_append, List.filter_cons_of_pos (p := fun i => (st C i).chk) hs, List.filter_nil, List.length_append]
  rfl
theorem cntK_no {C : List Ct} {all : List Int} {k : Nat} (h : k < all.length) (hs : (st C all[k]).chk = false) : cntK C (all.take (k + 1)) = cntK C (all.take k) := by
  unfold cntK
  rw [List.take_succ_eq_append_getElem h, List.filter_append, List.filter_cons_of_neg (by rw [hs]; decide), List.filter_nil, List.append_nil]
theorem cntK_few {C : List Ct} {all : List Int} : cntK C all ≤ all.length := List.length_filter_le ..
theorem OEnv.unlist {w W : World} {nv cv ov av : Value} {C : List Ct} {F : List Value} {all : List Int} (h : OEnv w W nv cv ov C F av all) : OEnv w W nv cv ov C F (.slice none 0 0) [] := ⟨h.bel, h.doc, h.row, World.ownsRow_nil _ _ _ _, fun _ q => by cases q⟩
/-- The marks of states that came in. -/
theorem cts_chk {w : World} {p : Option Addr} {k : Nat} {C : List Ct} {F : List Value} (h : CtsF w (.slice p C.length k) C F) {i : Nat} (hi : i < C.length) : ∃ b o, p = some ⟨b, o, none⟩ ∧ ∀ i (h : i < C.length), w.cell? ⟨b, o + i * 10 + 3, none⟩ = some (.bool C[i].chk) := by
  obtain ⟨_, p', k', e, h⟩ := h
  cases e
  rcases h with h | ⟨b, o, rfl, h⟩
  · rw [h] at hi; cases hi
  · exact ⟨b, o, rfl, fun i hi => h i hi 3 _ rfl⟩
set_option maxHeartbeats 8000000 in
theorem refOneG_any (nv cv : Value) (l : List Nd) (C : List Ct) (w : World) (hD : DocV w nv cv l C) (hz : DocSz l) (hC : CsOK C) :
    Calls Tryz.prog 11 #[.agg #[nv, cv]] w fun e w' => e = .returned (.bool (oneO l C)) ∧ Below w.heap.size w w' := by
  obtain ⟨F, hF⟩ := hD.cts
  have FI := hide hF.1
  have E0 := hide (OEnv.new w nv cv)
  have HR := hide (fun W (hb : Below w.heap.size w W) => refORight_any nv cv l C W (hD.below hb) hz hC)
  have HC := hide (fun W (hb : Below w.heap.size w W) => refOCopied_any cv C F W (hF.below hb) hC)
  have HM := hide (fun (i : Int) W (hb : Below w.heap.size w W) => refGMembers_any nv l i W (hD.nds.below hb) hz)
  cases r : rightD l C with
  | false =>
    have E : Hid (oneO l C = false) := by show _ = _; unfold oneO; rw [r]; rfl
    rw [r] at HR
    obtain ⟨p, c, rfl⟩ := nds_formK hD.nds
    obtain ⟨p2, c2, rfl⟩ := cts_formK hD.cts
    clear hD hz hC hF FI HC HM r
    go_enter Tryz.func11, Tryz.ntmps11
    go_wp2_with fail
    refine (HR.out _ E0.out.bel).mono ?_
    rintro e w1 ⟨rfl, b1⟩
    have E1 := hide (E0.out.step b1)
    clear b1 E0
    go_wp2_with fail
    go_ret
    exact ⟨ret_bool E.out.symm, E1.out.bel⟩
  | true =>
    have E : Hid (oneO l C = oneB l C) := by show _ = _; unfold oneO; rw [r]; rfl
    obtain ⟨R, hlen⟩ := rdK r
    rw [r] at HR
    obtain ⟨p, c, rfl⟩ := nds_formK hD.nds
    obtain ⟨p2, c2, rfl⟩ := cts_formK hD.cts
    have RT := hide R
    have l400 : l.length ≤ 400 := R.len.2
    have lpos : 0 < l.length := R.len.1
    have hC0 : 0 < C.length := by omega
    have lnC : l.length ≤ C.length := by omega
    obtain ⟨cb, co2, rfl, hcc⟩ := cts_chk hF hC0
    have CC := hide hcc
    clear hD hz hC hF r R hlen hcc HC FI
    go_enter Tryz.func11, Tryz.ntmps11
    go_wp2_with fail
    refine (HR.out _ E0.out.bel).mono ?_
    rintro e w1 ⟨rfl, b1⟩
    have E1 := hide (E0.out.step b1)
    clear b1 E0
    go_wp2_with fail
    go_loopw [3] (fun iv wr => ∃ j : Nat, j ≤ l.length ∧ iv = .int .i64 j ∧ Hid (∀ i, i < j → cntK C (membersP l (i : Int)) ≤ 1) ∧ Hid (OEnv w wr (.slice p l.length c) (.slice (some ⟨cb, co2, none⟩) C.length c2) (.slice none 0 0) [] [] (.slice none 0 0) [])) (fun iv _ => l.length - (intOf iv).toNat)
    case atStart => exact ⟨0, Nat.zero_le _, rfl, (fun i h => by omega), E1.out⟩
    case round =>
      rename World => wr
      obtain ⟨j, hj, rfl, HI, ER⟩ := hrel
      have c0 := ER.out.doc.cell 0 rfl
      clear E1
      by_cases hlt : j < l.length
      · have j1 : (j : Int) < (l.length : Int) := by omega
        have j0 : (0 : Int) ≤ (j : Int) := by omega
        have HMj := hide (HM.out (j : Int) _ ER.out.bel)
        have MR : Hid (∀ x ∈ membersP l (j : Int), 0 ≤ x ∧ x < (l.length : Int)) := fun x hx => ((mem_mem RT.out).1 hx).2.1
        have ML : (membersP l (j : Int)).length ≤ l.length := nodup_len l.length _ (mem_nodup RT.out) MR.out
        have NB : Hid (¬ cntK C (membersP l (j : Int)) ≤ 1 → oneB l C = false) := fun h => by
          cases t : oneB l C with
          | false => rfl
          | true => exact absurd (cntK_le t hlt) h
        have NX : Hid (cntK C (membersP l (j : Int)) ≤ 1 → ∀ i, i < j + 1 → cntK C (membersP l (i : Int)) ≤ 1) := fun h i hi => by
          by_cases e : i = j
          · rw [e]; exact h
          · exact HI.out i (by omega)
        go_wp2_with fail
        refine HMj.out.mono ?_
        rintro e w5 ⟨av, rfl, k5, b5⟩
        have E5 := hide (ER.out.listed b5 k5)
        obtain ⟨pa, ca, rfl, hca⟩ := kids_form k5
        clear b5 k5 hca c0 HMj ER HI
        generalize membersP l (j : Int) = ms at *
        go_wp2_with fail
        go_loopw [4, 6] (fun lv kv wq => ∃ k : Nat, k ≤ ms.length ∧ kv = .int .i64 k ∧ lv = .int .i64 ((cntK C (ms.take k) : Nat) : Int) ∧ Hid (OEnv w wq (.slice p l.length c) (.slice (some ⟨cb, co2, none⟩) C.length c2) (.slice none 0 0) [] [] (.slice pa ms.length ca) ms)) (fun _ kv _ => ms.length - (intOf kv).toNat)
        case atStart => exact ⟨0, Nat.zero_le _, rfl, by rw [List.take_zero]; rfl, E5.out⟩
        case round =>
          rename World => wq
          obtain ⟨k, hk, rfl, rfl, EQ⟩ := hrel
          clear E5
          by_cases hk2 : k < ms.length
          · have rx := MR.out ms[k] (List.getElem_mem hk2)
            obtain ⟨q, eq, hqC⟩ : ∃ q : Nat, ms[k] = (q : Int) ∧ q < C.length := ⟨ms[k].toNat, by omega, by omega⟩
            have c1 := EQ.out.doc.cell 1 rfl
            obtain ⟨ga, rfl, x0, eba⟩ := own_num EQ.out hk2
            rw [eq] at x0
            have cc := cell_below (CC.out q hqC) EQ.out.bel
            have k0 : (0 : Int) ≤ (k : Int) := by omega
            have k1 : (k : Int) < (ms.length : Int) := by omega
            have q0 : (0 : Int) ≤ (q : Int) := by omega
            have q1 : (q : Int) < (C.length : Int) := by omega
            have ST : (st C ms[k]).chk = C[q].chk := by rw [eq, st_nat hqC]
            have LY := hide (fun h => cntK_yes (C := C) hk2 h)
            have LN := hide (fun h => cntK_no (C := C) hk2 h)
            rw [ST] at LY LN
            have few : cntK C (ms.take k) ≤ 400 := Nat.le_trans cntK_few (by rw [List.length_take]; omega)
            generalize hLK : cntK C (ms.take k) = LK at *
            clear rx ST eq hLK
            cases hc : C[q].chk with
            | true =>
              rw [hc] at cc LY
              have L1 := hide (LY.out rfl)
              clear LY LN
              go_wp2_with fail
              go_quiet (fail)
              have EN := hide (fun n => EQ.out.drew n)
              clear EQ
              go_wp2_with fail
              go_roundw
              case rel => exact ⟨k + 1, by omega, by go_num, by rw [L1.out]; go_num, EN.out _⟩
              case measure => simp [intOf]; omega
            | false =>
              rw [hc] at cc LN
              have L1 := hide (LN.out rfl)
              clear LY LN
              go_wp2_with fail
              go_quiet (fail)
              have EN := hide (fun n => EQ.out.drew n)
              clear EQ
              go_wp2_with fail
              go_roundw
              case rel => exact ⟨k + 1, by omega, by go_num, by rw [L1.out], EN.out _⟩
              case measure => simp [intOf]; omega
          · obtain rfl : k = ms.length := by omega
            rw [List.take_length]
            have EU := hide EQ.out.unlist
            clear EQ
            generalize hLK : cntK C ms = LK at *
            clear hLK
            by_cases hL : LK ≤ 1
            · have dL : ¬ (1 : Int) < (LK : Int) := by omega
              have N1 := hide (NX.out hL)
              clear NB NX
              go_wp2_with fail
              go_roundw
              case rel => exact ⟨j + 1, by omega, by go_num, N1.out, EU.out⟩
              case measure => simp [intOf]; omega
            · have dL : (1 : Int) < (LK : Int) := by omega
              have N1 := hide (NB.out hL)
              clear NB NX
              go_wp2_with fail
              go_ret
              exact ⟨ret_bool (by rw [E.out, N1.out]), EU.out.bel⟩
      · obtain rfl : j = l.length := by omega
        have OT : Hid (oneB l C = true) := by
          show _ = _
          unfold oneB
          rw [List.all_eq_true]
          intro i hi
          exact decide_eq_true (HI.out i (List.mem_range.1 hi))
        have BE := hide ER.out.bel
        clear ER HI
        go_wp2_with fail
        go_ret
        exact ⟨ret_bool (by rw [E.out, OT.out]), BE.out⟩
end Go.Proofs.YtldbaoolddlacaaGreatDoor

namespace Go.Proofs.YtldbaoolddlacaaGreatDoor
open Go.RowKit
set_option maxRecDepth 100000
set_option maxHeartbeats 8000000 in
theorem gpCopied_any (nv cv : Value) (l : List Nd) (C : List Ct) (w : World) (hD : DocV w nv cv l C) (hz : DocSz l) (hC : CsOK C) :
    Calls Tryz.prog 7 #[.agg #[nv, cv]] w fun e w' => ∃ nv' cv', e = .returned (.agg #[nv', cv']) ∧ DocV w' nv' cv' l C ∧ Below w.heap.size w w' := by
  obtain ⟨F, hF⟩ := hD.cts
  have H1 := hide (fun W (hb : Below w.heap.size w W) => refCopied_any nv l W (hD.nds.below hb) hz)
  have H2 := hide (fun W (hb : Below w.heap.size w W) => refOCopied_any cv C F W (hF.below hb) hC)
  have FI := hide hF.1
  obtain ⟨pn, kn, rfl⟩ := nds_form hD.nds
  obtain ⟨pc, kc, rfl⟩ := cts_form hD.cts
  have B0 : Hid (Below w.heap.size w ((w.alloc (.cells #[.slice pn l.length kn, .slice pc C.length kc] 25)).alloc (.cells #[.slice none 0 0, .slice none 0 0] 25))) := ((Below.refl _ w).alloc (Nat.le_refl _) _).alloc ((Below.refl _ w).alloc (Nat.le_refl _) (.cells #[.slice pn l.length kn, .slice pc C.length kc] 25)).size _
  have ND := hide ((Bk.new w [.slice pn l.length kn, .slice pc C.length kc] 25).below ((Below.refl _ (w.alloc (.cells #[.slice pn l.length kn, .slice pc C.length kc] 25))).alloc (Nat.le_refl _) (.cells #[.slice none 0 0, .slice none 0 0] 25)))
  have NR : Hid (Bk ((w.alloc (.cells #[.slice pn l.length kn, .slice pc C.length kc] 25)).alloc (.cells #[.slice none 0 0, .slice none 0 0] 25)) (w.heap.size + 1) [.slice none 0 0, .slice none 0 0] 25) := Bk.at' (bk_next rfl)
  clear hD hz hC hF
  go_enter Tryz.func7, Tryz.ntmps7
  go_upto_region 1 with fail
  generalize (w.alloc (.cells #[.slice pn l.length kn, .slice pc C.length kc] 25)).alloc (.cells #[.slice none 0 0, .slice none 0 0] 25) = w0 at *
  have x0 := ND.out.cell 0 rfl
  have x1 := ND.out.cell 1 rfl
  have r0 := NR.out.cell 0 rfl
  have r1 := NR.out.cell 1 rfl
  have s0 := NR.out.free 0
  have s1 := NR.out.free 1
  have l0 : w.heap.size + 1 < w0.heap.size := NR.out.lt
  go_region_held3 (fun w' => w'.cell? ⟨w.heap.size, 0, none⟩ = some (.slice pn l.length kn) ∧ w'.cell? ⟨w.heap.size, 1, none⟩ = some (.slice pc C.length kc)) (first | go_keep | exact ⟨cell_below x0 U1.out, cell_below x1 U1.out⟩ | exact ⟨cell_below x0 U2.out, cell_below x1 U2.out⟩ | exact ⟨(World.cell?_setCell_other _ _ _ _ (addr_neO (Nat.succ_ne_self _))).trans ((World.cell?_setCell_other _ _ _ _ (addr_neO (Nat.succ_ne_self _))).trans (cell_below x0 U2.out)), (World.cell?_setCell_other _ _ _ _ (addr_neO (Nat.succ_ne_self _))).trans ((World.cell?_setCell_other _ _ _ _ (addr_neO (Nat.succ_ne_self _))).trans (cell_below x1 U2.out))⟩)
    (first | (go_at_call 21; refine (H1.out _ (belRO B0.out 1)).mono ?_; rintro e w1 ⟨v1, L1, rfl, o1, e1, b1⟩; have O1 := hide o1; have E1 := hide e1; obtain ⟨p1, k1, rfl⟩ := own_form o1 e1; clear o1 e1; have U1 : Hid (Below w0.heap.size w0 w1) := undrewO b1) | (go_at_call 22; refine (H2.out _ (chain B0.out U1.out)).mono ?_; rintro e w2 ⟨v2, rfl, o2, b2⟩; have O2 := hide o2; obtain ⟨p2, k2, rfl, _⟩ := o2.form; clear o2; have U2 : Hid (Below w0.heap.size w0 w2) := chain U1.out b2; have y0 := cell_below r0 U2.out; have y1 := cell_below r1 U2.out; have z0 := (U2.out.frozen (World.block_lt_of_cell? _ _ r0)).trans s0; have z1 := (U2.out.frozen (World.block_lt_of_cell? _ _ r1)).trans s1))
  go_wp2_with fail
  refine bodyPost_ret (v := .agg #[.slice p1 l.length k1, .slice p2 C.length k2]) (by simp [results, go_sem, y0, y1]) rfl ?_
  have CH : Chg [w.heap.size + 1] w2 ((w2.setCell ⟨w.heap.size + 1, 0, none⟩ (.slice p1 l.length k1)).setCell ⟨w.heap.size + 1, 1, none⟩ (.slice p2 C.length k2)) := (Chg.setB _ _ _ _).trans (Chg.setB _ _ _ _)
  have BF : Below w.heap.size w ((w2.setCell ⟨w.heap.size + 1, 0, none⟩ (.slice p1 l.length k1)).setCell ⟨w.heap.size + 1, 1, none⟩ (.slice p2 C.length k2)) := ((chain B0.out U2.out).setCell (Nat.le_succ _) _).setCell (Nat.le_succ _) _
  have N1 := ((O1.out.below b2).chg CH (fun k q => by rw [List.mem_singleton.1 q]; exact l0)).nodes
  rw [E1.out] at N1
  exact ⟨_, _, rfl, ⟨N1, (O2.out.chg CH (fun k q => by rw [List.mem_singleton.1 q]; have := U1.out.size; omega)).cts (FI.out.below BF)⟩, BF⟩
/-- States that differ in flags alone. -/
theorem csok_same {C C' : List Ct} (h : CsOK C) (hl : C'.length = C.length) (hs : ∀ i (h1 : i < C.length) (h2 : i < C'.length), C'[i].files = C[i].files ∧ C'[i].val = C[i].val ∧ C'[i].custom = C[i].custom) : CsOK C' := by
  refine ⟨by rw [hl]; exact h.len, fun c hc => ?_, fun c hc => ?_⟩
  · obtain ⟨i, hi, rfl⟩ := List.getElem_of_mem hc
    rw [(hs i (by omega) hi).1]
    exact h.fs _ (List.getElem_mem _)
  · obtain ⟨i, hi, rfl⟩ := List.getElem_of_mem hc
    rw [(hs i (by omega) hi).2.1, (hs i (by omega) hi).2.2]
    exact h.tx _ (List.getElem_mem _)
theorem csok_nil : CsOK [] := ⟨by decide, fun c q => (by cases q), fun c q => (by cases q)⟩

end Go.Proofs.YtldbaoolddlacaaGreatDoor
