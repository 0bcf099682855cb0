/- The document's Copied of layer 10. The example of layer 15's statements, as their own function lays it in the world. The program's find, has, submits, isWithin, canBeChanged, isBarred, Barred of layer 18. -/
import Derived.Test.YtdbabciafifnaaaGreatDoorJvb22
import Derived.Test.YtdbabciafifnaaaGreatDoorJvb25
import Derived.Test.YtdbabciafifnaaaGreatDoorJvb32
import Derived.Deep.DrawnRows

namespace Go.Proofs.YtdbabciafifnaaaGreatDoor
open Go.RowKit
set_option maxRecDepth 100000
set_option maxHeartbeats 4000000 in
set_option maxRecDepth 100000 in
theorem refCopied_any (v : Value) (l : List Nd) (w : World) (hv : NodesV w v l) (hz : DocSz l) :
    Calls Tryz.prog 6 #[v] w fun e w' => ∃ v' L, e = .returned v' ∧ OwnD w.heap.size w' v' L ∧ ndsOf L = l ∧ Below w.heap.size w w' := by
  obtain ⟨p, c, rfl, hv⟩ := hv
  have hlen := hz.len
  have SZ := hide hz
  clear hz
  generalize hB : w.heap.size = B
  go_enter Tryz.func6, Tryz.ntmps6
  go_wp2_with fail
  go_loopw [3, 4] (fun ov iv wr => ∃ (j : Nat) (L : List NdV), j ≤ l.length ∧ iv = .int .i64 j ∧ Hid (OwnD B wr ov L ∧ ndsOf L = l.take j ∧ Below B w wr)) (fun _ iv _ => l.length - (intOf iv).toNat)
  case atStart => exact ⟨0, [], Nat.zero_le _, rfl, ⟨World.ownsRow_nil w B _ 5, (fun _ q => by cases q), (fun _ q => by cases q), by simp [Value.ownBlock]⟩, by simp [ndsOf], Below.refl _ _⟩
  case round =>
    rename World => wr
    obtain ⟨j, L, hj, rfl, HD⟩ := hrel
    by_cases h : j < l.length
    · have i1 : (j : Int) < (l.length : Int) := by omega
      have i0 : (0 : Int) ≤ (j : Int) := by omega
      rcases hv with hv | ⟨b, o, rfl, hv⟩
      · rw [hv] at h; simp at h
      obtain ⟨va, vk, N0⟩ := hv j h
      have N1 : NodeAt wr b (o + j * 5) l[j] va vk := N0.below (by rw [hB]; exact HD.out.2.2)
      have Bw : B ≤ wr.heap.size := by have := HD.out.2.2.size; omega
      have bl : b < wr.heap.size := World.block_lt_of_cell? _ _ N1.name
      have bn : b ≠ wr.heap.size := by omega
      have bn2 : ¬ wr.heap.size = b := by omega
      have a0 := N1.name
      have a1 := N1.text
      have a3 := N1.parent
      have DB : Hid (∀ w', Chg [wr.heap.size] wr w' → NodeAt w' b (o + j * 5) l[j] va vk) := fun w' hc => N1.below (hc.none (fun k q => by rw [List.mem_singleton.1 q]; exact Nat.le_refl _))
      have HZ := hide (SZ.out.nds l[j] (List.getElem_mem _))
      have LL : Hid (L.length = j) := by
        show _ = _
        have := congrArg List.length HD.out.2.1
        rw [ndsOf_len, List.length_take] at this
        omega
      clear N0 N1 hv SZ
      obtain ⟨y, hy⟩ : ∃ y, Hid (l[j] = y) := ⟨l[j], show l[j] = l[j] from rfl⟩
      rw [hy.out] at a0 a1 a3 DB HZ
      obtain ⟨iA, hA0, hA1, hA2, hA3⟩ := info_parts infoA
      obtain ⟨iI, hI0, hI1, hI2, hI3⟩ := info_parts infoI
      obtain ⟨iN, hN0, hN1, hN2, hN3⟩ := info_parts infoN
      have za := HZ.out.attrs
      have zk := HZ.out.kids
      have OA := cellsA_one y.attrs
      have OK := cellsI_one y.kids
      obtain ⟨y0, hy0⟩ : ∃ y0, Hid (y.name = y0) := ⟨y.name, show y.name = y.name from rfl⟩
      obtain ⟨y1, hy1⟩ : ∃ y1, Hid (y.text = y1) := ⟨y.text, show y.text = y.text from rfl⟩
      obtain ⟨y3, hy3⟩ : ∃ y3, Hid (y.parent = y3) := ⟨y.parent, show y.parent = y.parent from rfl⟩
      rw [hy0.out] at a0
      rw [hy1.out] at a1
      rw [hy3.out] at a3
      go_wp2_with fail
      go_region
      generalize hw1 : (wr.alloc (.cells #[Value.string y0, Value.string y1, Value.slice none 0 0, Value.int IntKind.i64 y3, Value.slice none 0 0] 38)).drew = w1
      have NB1 : Hid (NB w1 wr.heap.size [Value.string y0, Value.string y1, Value.slice none 0 0, Value.int IntKind.i64 y3, Value.slice none 0 0] 38) := by rw [← hw1]; exact (NB.new wr _ _).drew
      have C1 : Hid (Chg [wr.heap.size] wr w1) := by rw [← hw1]; exact ((Chg.alloc wr _).trans (Chg.drew _)).nil
      have s1 : Hid (w1.heap.size = wr.heap.size + 1) := by rw [← hw1]; show (wr.alloc _).heap.size = _; simp
      clear hw1 a0 a1 a3
      have b0 := NB1.out.cell 2 rfl
      have b1 := NB1.out.free 2
      have A2 := (DB.out w1 C1.out).attrs
      have RA := hide (DB.out w1 C1.out).at_.raw
      have HB1 : Hid (B ≤ w1.heap.size) := by show _ ≤ _; rw [s1.out]; omega
      have ln := NB1.out.lt
      go_wp2_with fail
      go_region_law ((refine step_append_raw (by rfl) _ _ _ (by rfl) B 31 iA _ 2 32 Tryz.underlying35 hA0 hA1 hA2 hA3 rfl (by omega) (.slice none 0 0) 0 [] (by rfl) (World.ownsRow_nil _ _ _ _) va y.attrs.length (cellsA y.attrs) (by rfl) RA.out OA (by unfold maxLen; omega) (by omega) HB1.out ?_; intro q2 c2 w2 own2 gr2 at2; have k0 := World.grownBy.cell gr2 (a := ⟨wr.heap.size, 2, none⟩) b0 (by simp [Value.ownBlock]); have k1 := (World.grownBy.frozen_far gr2 ⟨wr.heap.size, 2, none⟩ ln (by simp [Value.ownBlock])).trans b1))
      all_goals
        rw [Nat.zero_add] at own2 at2
        rw [List.nil_append] at own2
        have C2 : Hid (Chg [wr.heap.size] w1 w2) := ((Chg.drew w1).trans (Chg.of_grown gr2)).nil
        have B2 : Hid (∀ k, (Value.slice q2 y.attrs.length c2).ownBlock = some k → k = wr.heap.size + 1 ∧ k < w2.heap.size) := by
          intro k hk
          rcases at2 with q | q
          · rw [q] at hk; cases hk
          · refine ⟨?_, (own2.lt k hk).2⟩
            rw [q] at hk
            have : w1.heap.size = k := Option.some.inj hk
            have := s1.out
            omega
        have N2 : Hid (NB w2 wr.heap.size [Value.string y0, Value.string y1, Value.slice none 0 0, Value.int IntKind.i64 y3, Value.slice none 0 0] 38) := NB1.out.chg ((Chg.drew w1).trans (Chg.of_grown gr2)) (by simp)
        have O2 := hide own2
        clear own2 at2 gr2 k0 k1 b0 b1 A2 RA HB1 ln
        generalize hw3 : w2.setCell ⟨wr.heap.size, 2, none⟩ (Value.slice q2 y.attrs.length c2) = w3
        have NB3 : Hid (NB w3 wr.heap.size [Value.string y0, Value.string y1, Value.slice q2 y.attrs.length c2, Value.int IntKind.i64 y3, Value.slice none 0 0] 38) := by rw [← hw3]; exact N2.out.set 2 _
        have C3' : Hid (Chg [wr.heap.size] w2 w3) := by rw [← hw3]; exact Chg.setB w2 _ _ _
        have C3 : Hid (Chg [wr.heap.size] wr w3) := C1.out.trans (C2.out.trans C3'.out)
        have O3 : Hid (AttrsO B w3 (Value.slice q2 y.attrs.length c2) y.attrs) := owns_kept O2.out C3'.out (fun k hk q => by
          have := (B2.out k hk).1
          have := List.mem_singleton.1 q
          omega)
        have B3 : Hid (∀ k, (Value.slice q2 y.attrs.length c2).ownBlock = some k → k = wr.heap.size + 1 ∧ k < w3.heap.size) := fun k hk => ⟨(B2.out k hk).1, Nat.lt_of_lt_of_le (B2.out k hk).2 C3'.out.size⟩
        clear hw3 N2 NB1 O2 B2 C3' C2 C1 s1
        have b0 := NB3.out.cell 4 rfl
        have b1 := NB3.out.free 4
        have A4 := (DB.out w3 C3.out).kids
        have RK := hide (DB.out w3 C3.out).ks.raw
        have ln := NB3.out.lt
        have HB3 : Hid (B ≤ w3.heap.size) := by show _ ≤ _; omega
        go_wp2_with fail
        go_region_law ((refine step_append_raw (by rfl) _ _ _ (by rfl) B 3 iI _ 1 8 Tryz.underlying36 hI0 hI1 hI2 hI3 rfl (by omega) (.slice none 0 0) 0 [] (by rfl) (World.ownsRow_nil _ _ _ _) vk y.kids.length (cellsI y.kids) (by rfl) RK.out OK (by unfold maxLen; omega) (by omega) HB3.out ?_; intro q4 c4 w4 own4 gr4 at4; have k0 := World.grownBy.cell gr4 (a := ⟨wr.heap.size, 4, none⟩) b0 (by simp [Value.ownBlock]); have k1 := (World.grownBy.frozen_far gr4 ⟨wr.heap.size, 4, none⟩ ln (by simp [Value.ownBlock])).trans b1))
        all_goals
          rw [Nat.zero_add] at own4 at4
          rw [List.nil_append] at own4
          have C4 : Hid (Chg [wr.heap.size] w3 w4) := ((Chg.drew w3).trans (Chg.of_grown gr4)).nil
          have B4 : Hid (∀ k, (Value.slice q4 y.kids.length c4).ownBlock = some k → w3.heap.size ≤ k ∧ k < w4.heap.size) := by
            intro k hk
            rcases at4 with q | q
            · rw [q] at hk; cases hk
            · refine ⟨?_, (own4.lt k hk).2⟩
              rw [q] at hk
              exact Nat.le_of_eq (Option.some.inj hk)
          have N4 : Hid (NB w4 wr.heap.size [Value.string y0, Value.string y1, Value.slice q2 y.attrs.length c2, Value.int IntKind.i64 y3, Value.slice none 0 0] 38) := NB3.out.chg ((Chg.drew w3).trans (Chg.of_grown gr4)) (by simp)
          have O4 := hide own4
          have O3' : Hid (AttrsO B w4 (Value.slice q2 y.attrs.length c2) y.attrs) := owns_kept O3.out ((Chg.drew w3).trans (Chg.of_grown gr4)) (fun k hk q => by simp at q)
          clear own4 at4 gr4 k0 k1 b0 b1 A4 RK HB3
          generalize hw5 : w4.setCell ⟨wr.heap.size, 4, none⟩ (Value.slice q4 y.kids.length c4) = w5
          have NB5 : Hid (NB w5 wr.heap.size [Value.string y0, Value.string y1, Value.slice q2 y.attrs.length c2, Value.int IntKind.i64 y3, Value.slice q4 y.kids.length c4] 38) := by rw [← hw5]; exact N4.out.set 4 _
          have C5' : Hid (Chg [wr.heap.size] w4 w5) := by rw [← hw5]; exact Chg.setB w4 _ _ _
          have C5 : Hid (Chg [wr.heap.size] wr w5) := C3.out.trans (C4.out.trans C5'.out)
          have O5a : Hid (AttrsO B w5 (Value.slice q2 y.attrs.length c2) y.attrs) := owns_kept O3'.out C5'.out (fun k hk q => by
            have := (B3.out k hk).1
            have := List.mem_singleton.1 q
            omega)
          have O5k : Hid (KidsO B w5 (Value.slice q4 y.kids.length c4) y.kids) := owns_kept O4.out C5'.out (fun k hk q => by
            have := (B4.out k hk).1
            have := List.mem_singleton.1 q
            omega)
          have B5 : Hid (∀ k, (Value.slice q4 y.kids.length c4).ownBlock = some k → w3.heap.size ≤ k ∧ k < w5.heap.size) := fun k hk => ⟨(B4.out k hk).1, Nat.lt_of_lt_of_le (B4.out k hk).2 C5'.out.size⟩
          have B5a : Hid (∀ k, (Value.slice q2 y.attrs.length c2).ownBlock = some k → k = wr.heap.size + 1 ∧ k < w3.heap.size ∧ k < w5.heap.size) := fun k hk => ⟨(B3.out k hk).1, (B3.out k hk).2, Nat.lt_of_lt_of_le (B3.out k hk).2 (Nat.le_trans C4.out.size C5'.out.size)⟩
          clear hw5 N4 NB3 O4 O3 O3' B3 B4 C5' C4 C3
          have e0 := NB5.out.cell 0 rfl
          have e1 := NB5.out.cell 1 rfl
          have e2 := NB5.out.cell 2 rfl
          have e3 := NB5.out.cell 3 rfl
          have e4 := NB5.out.cell 4 rfl
          have ln5 := NB5.out.lt
          have C6 : Hid (Chg [wr.heap.size] wr (w5.alloc (.cells #[Value.string y0, Value.string y1, Value.slice q2 y.attrs.length c2, Value.int IntKind.i64 y3, Value.slice q4 y.kids.length c4] 38))) := C5.out.trans (Chg.alloc _ _).nil
          have R6 := hide ((NB.new w5 [Value.string y0, Value.string y1, Value.slice q2 y.attrs.length c2, Value.int IntKind.i64 y3, Value.slice q4 y.kids.length c4] 38).raw 1 5 rfl 1)
          have W6 : Hid (B ≤ (w5.alloc (.cells #[Value.string y0, Value.string y1, Value.slice q2 y.attrs.length c2, Value.int IntKind.i64 y3, Value.slice q4 y.kids.length c4] 38)).heap.size) := by show _ ≤ _; simp; omega
          have OW := hide (owns_kept HD.out.1.row C6.out (fun k hk q => by
            have := (HD.out.1.row.lt k hk).2
            have := List.mem_singleton.1 q
            omega))
          have HL := LL.out
          go_wp2_with (at_builtin; refine wpList_append_raw rfl _ _ _ rfl B 38 iN _ 5 88 Tryz.underlying22 hN0 hN1 hN2 hN3 rfl (by omega) _ L.length (cellsV L) rfl OW.out _ 1 _ rfl R6.out (by simp [Value.oneCell']) (by unfold maxLen; omega) (by omega) W6.out ?_; intro q6 c6 w6 own6 gr6 at6)
          rw [LL.out] at own6 at6
          have G6 : Hid (Chg u3.ownBlock.toList w5 w6) := (Chg.alloc _ _).nil.trans (Chg.of_grown gr6)
          have U3 : Hid (∀ k, u3.ownBlock = some k → k < wr.heap.size) := fun k hk => (HD.out.1.row.lt k hk).2
          have H5 : Hid (wr.heap.size ≤ w5.heap.size) := C5.out.size
          have A6 : Hid ((Value.slice q6 (j + 1) c6).ownBlock = u3.ownBlock ∨ (Value.slice q6 (j + 1) c6).ownBlock = some (w5.heap.size + 1)) := by
            rcases at6 with q | q
            · exact .inl q
            · exact .inr (by rw [q]; simp)
          have H3 : Hid (wr.heap.size < w3.heap.size) := ln
          go_roundw
          case rel =>
            refine ⟨j + 1, L ++ [⟨y, .slice q2 y.attrs.length c2, .slice q4 y.kids.length c4⟩], by omega, by go_num, ?_⟩
            refine ⟨HD.out.1.push (((C5.out.mono (fun k q r => by have := List.mem_singleton.1 q; omega))).trans G6.out) ?_ ?_ ?_ ?_ ?_ ?_, ?_, ?_⟩
            · rw [LL.out]
              show w6.ownsRow B _ 5 _ (j + 1) (cellsV L ++ [.string y.name, .string y.text, _, .int .i64 y.parent, _])
              rw [hy0.out, hy1.out, hy3.out]; exact own6
            · exact owns_kept O5a.out G6.out (fun k hk q => by have := (B5a.out k hk).1; have := U3.out k (opt_mem.1 q); omega)
            · exact owns_kept O5k.out G6.out (fun k hk q => by have := (B5.out k hk).1; have := U3.out k (opt_mem.1 q); have := H3.out; omega)
            · show ((Value.slice q2 y.attrs.length c2).ownBlock.toList ++ (Value.slice q4 y.kids.length c4).ownBlock.toList).Nodup
              rw [List.nodup_append]
              refine ⟨by cases (Value.slice q2 y.attrs.length c2).ownBlock <;> simp, by cases (Value.slice q4 y.kids.length c4).ownBlock <;> simp, fun a ha b hb e => ?_⟩
              have := (B5a.out a (opt_mem.1 ha)).2.1
              have := (B5.out b (opt_mem.1 hb)).1
              omega
            · intro k hk
              have hk : k ∈ (Value.slice q2 y.attrs.length c2).ownBlock.toList ++ (Value.slice q4 y.kids.length c4).ownBlock.toList := hk
              have M : wr.heap.size ≤ k ∧ k < w5.heap.size := by
                have := H3.out
                rcases List.mem_append.1 hk with q | q
                · have := B5a.out k (opt_mem.1 q); omega
                · have := B5.out k (opt_mem.1 q); omega
              refine ⟨M.1, fun e => ?_⟩
              rcases A6.out with q | q
              · rw [q] at e; have := U3.out k e; omega
              · rw [q] at e; have := Option.some.inj e; omega
            · rcases A6.out with q | q
              · exact .inl q
              · exact .inr (fun k hk => by rw [q] at hk; have := Option.some.inj hk; have := H5.out; omega)
            · unfold ndsOf
              rw [List.map_append]
              have e := HD.out.2.1
              unfold ndsOf at e
              rw [e, List.take_succ_eq_append_getElem h, hy.out]
              rfl
            · exact HD.out.2.2.trans (((C5.out.mono (S' := u3.ownBlock.toList) (fun k q r => by have := List.mem_singleton.1 q; omega)).trans G6.out).below Bw (fun k q => (HD.out.1.row.lt k (opt_mem.1 q)).1))
          case measure => simp [intOf]; omega
    · obtain rfl : j = l.length := by omega
      clear hv h SZ
      go_wp2_with fail
      go_ret
      refine ⟨_, L, rfl, HD.out.1, ?_, HD.out.2.2⟩
      rw [HD.out.2.1, List.take_length]
end Go.Proofs.YtdbabciafifnaaaGreatDoor

namespace Go.Proofs.YtdbabciafifnaaaGreatDoor
open Go.RowKit
set_option maxRecDepth 100000
theorem ints_nil (w : World) : IntsV w (.slice none 0 0) [] := ⟨none, 0, rfl, .inl rfl⟩
theorem attrs_nilO (w : World) : AttrsV w (.slice none 0 0) [] := ⟨none, 0, rfl, .inl rfl⟩
theorem cap_nilO : CapOK (.slice none 0 0) := fun p n c e => by cases e; exact Nat.le_refl _
/-- A row of states in a block. -/
theorem cts_bk {w : World} {b k : Nat} {C : List Ct} {F : List Value} (h : Bk w b (cellsC C F) 55) (hF : FilesIn w C F) : CtsF w (.slice (some ⟨b, 0, none⟩) C.length k) C F := by
  refine ⟨hF, _, k, rfl, .inr ⟨b, 0, rfl, fun i hi j u hu => ?_⟩⟩
  have hj : j < 10 := (List.getElem?_eq_some_iff.1 hu).1
  rw [Nat.zero_add]
  exact h.cell _ ((cellsC_at hF.len hi hj).trans hu)
theorem bk_next {w : World} {o : Obj} {n : Nat} (h : w.heap.size = n) : (w.alloc o).heap.size = n + 1 := by rw [← h]; simp
theorem Bk.at' {w : World} {cs : List Value} {t : TypeId} {n : Nat} (h : w.heap.size = n) : Bk (w.alloc (.cells cs.toArray t)) n cs t := by rw [← h]; exact Bk.new w cs t
theorem own_form {B : Nat} {w : World} {v : Value} {L : List NdV} {l : List Nd} (h : OwnD B w v L) (e : ndsOf L = l) : ∃ p c, v = .slice p l.length c := by
  obtain ⟨p, c, q, _⟩ := h.nodes
  rw [e] at q
  exact ⟨p, c, q⟩
end Go.Proofs.YtdbabciafifnaaaGreatDoor

namespace Go.Proofs.YtdbabciafifnaaaGreatDoor
open Go.RowKit
set_option maxRecDepth 100000
theorem ret_fndV {a b : ByteArray} {c d : Bool} (h : a = b) (g : c = d) : Ending.returned (.tuple #[.string a, .bool c]) = .returned (.tuple #[.string b, .bool d]) := by rw [h, g]
set_option maxHeartbeats 4000000 in
theorem vaFind1_any (s : ByteArray) (B : Nat) (x : ByteArray × ByteArray) (W : World) (hc : W.cell? ⟨B, 0, none⟩ = some (.string s)) :
    Calls Tryz.prog 140 #[.agg #[.string x.1, .string x.2], .pointer (some ⟨B, 0, none⟩)] W fun e w' => e = .returned (.bool (isN s x)) ∧ Below W.heap.size W w' := by
  have hB := World.block_lt_of_cell? _ _ hc
  have hne : B ≠ W.heap.size := by have : B < W.heap.size := hB; omega
  have E := hide (txt_beq x.1 s)
  unfold isN
  generalize x.1 = a at *
  generalize x.2 = b at *
  generalize hR : decide (a = s) = R at *
  clear hR
  go_enter Tryz.func140, Tryz.ntmps140
  go_wp2_with fail
  go_ret
  exact ⟨ret_bool E.out, (Below.refl _ W).alloc (Nat.le_refl _) _⟩
theorem entersVaFind : ∀ args w, (callFunc 140 args).run Tryz.prog w = .ok (.enter 140 args) w := Go.Proofs.enters_of Tryz.func140 (by kernel_rfl) rfl
set_option maxHeartbeats 4000000 in
theorem vaFind_any (n : Nd) (va : Value) (pk : Option Addr) (nk ck : Nat) (s : ByteArray) (w : World) (hv : AttrsV w va n.attrs) (hl : n.attrs.length ≤ 4398046511104) :
    Calls Tryz.prog 89 #[.agg #[.string n.name, .string n.text, va, .int .i64 n.parent, .slice pk nk ck], .string s] w fun e w' => e = .returned (.tuple #[.string (fndS n.attrs s), .bool (hasA n s)]) ∧ Below w.heap.size w w' := by
  have B0 : Hid (Below w.heap.size w ((w.alloc (.cells #[.string n.name, .string n.text, va, .int .i64 n.parent, .slice pk nk ck] 38)).alloc (.cells #[.string s] 9))) := ((Below.refl _ w).alloc (Nat.le_refl _) _).alloc (by simp) _
  have PR : PredA 140 #[.pointer (some ⟨w.heap.size + 1, 0, none⟩)] (isN s) ((w.alloc (.cells #[.string n.name, .string n.text, va, .int .i64 n.parent, .slice pk nk ck] 38)).alloc (.cells #[.string s] 9)) := fun W x hb =>
    vaFind1_any s (w.heap.size + 1) x W ((hb.cell (by simp)).trans (by simp))
  have HC := hide (indexFuncA_any va n.attrs (isN s) 140 #[.pointer (some ⟨w.heap.size + 1, 0, none⟩)] entersVaFind ((w.alloc (.cells #[.string n.name, .string n.text, va, .int .i64 n.parent, .slice pk nk ck] 38)).alloc (.cells #[.string s] 9)) (hv.below B0.out) PR hl)
  have HIT := hide (fun k hk (h : n.attrs.findIdx? (isN s) = some k) => fnd_hit (ax := n.attrs) (n := s) (k := k) hk h)
  have MISS := hide (fun (h : n.attrs.findIdx? (isN s) = none) => fnd_miss (ax := n.attrs) (n := s) h)
  clear PR
  unfold hasA
  obtain ⟨p, c, rfl, hk⟩ := hv
  generalize fndS n.attrs s = R1 at *
  generalize (findA n.attrs s).isSome = R2 at *
  generalize n.name = n0 at *
  generalize n.text = n1 at *
  generalize n.parent = n3 at *
  generalize n.attrs = ax at *
  cases h : ax.findIdx? (isN s) with
  | none =>
    have E := hide (MISS.out h)
    rw [h, show findV none = -1 from rfl] at HC
    clear hk HIT MISS h
    go_enter Tryz.func89, Tryz.ntmps89
    go_wp2_with fail
    refine HC.out.mono ?_
    rintro e w1 ⟨rfl, b1⟩
    go_wp2_with fail
    go_ret2
    exact ⟨ret_fndV E.out.1.symm E.out.2.symm, chain B0.out b1⟩
  | some i =>
    obtain ⟨hi, _, _⟩ := List.findIdx?_eq_some_iff_getElem.1 h
    have E := hide (HIT.out i hi h)
    rw [h, show findV (some i) = (i : Int) from rfl] at HC
    have i0 : (0 : Int) ≤ (i : Int) := by omega
    have i1 : (i : Int) < (ax.length : Int) := by omega
    have i2 : ¬ (i : Int) < 0 := by omega
    obtain ⟨b, o, rfl, hc⟩ : ∃ b o, p = some ⟨b, o, none⟩ ∧ ∀ i (h : i < ax.length), w.cell? ⟨b, o + i * 2, none⟩ = some (.string ax[i].1) ∧ w.cell? ⟨b, o + i * 2 + 1, none⟩ = some (.string ax[i].2) := by
      rcases hk with t | t
      · rw [t] at hi; simp at hi
      · exact t
    have c1 := hide (hc i hi).2
    have CN := hide (show ((w.alloc (.cells #[.string n0, .string n1, .slice (some ⟨b, o, none⟩) ax.length c, .int .i64 n3, .slice pk nk ck] 38)).alloc (.cells #[.string s] 9)).cell? ⟨w.heap.size, 2, none⟩ = some (.slice (some ⟨b, o, none⟩) ax.length c) by simp)
    clear hc HIT MISS h
    generalize ax[i].2 = t at *
    go_enter Tryz.func89, Tryz.ntmps89
    go_wp2_with fail
    refine HC.out.mono ?_
    rintro e w1 ⟨rfl, b1⟩
    have y1 := cell_below (cell_below c1.out B0.out) b1
    have y2 := cell_below CN.out b1
    go_wp2_with fail
    go_ret2
    exact ⟨ret_fndV E.out.1.symm E.out.2.symm, chain B0.out b1⟩
set_option maxHeartbeats 4000000 in
theorem vaHas_any (n : Nd) (va : Value) (pk : Option Addr) (nk ck : Nat) (s : ByteArray) (w : World) (hv : AttrsV w va n.attrs) (hl : n.attrs.length ≤ 4398046511104) :
    Calls Tryz.prog 51 #[.agg #[.string n.name, .string n.text, va, .int .i64 n.parent, .slice pk nk ck], .string s] w fun e w' => e = .returned (.bool (hasA n s)) ∧ Below w.heap.size w w' := by
  have B0 : Hid (Below w.heap.size w (w.alloc (.cells #[.string n.name, .string n.text, va, .int .i64 n.parent, .slice pk nk ck] 38))) := (Below.refl _ w).alloc (Nat.le_refl _) _
  have HC := hide (vaFind_any n va pk nk ck s (w.alloc (.cells #[.string n.name, .string n.text, va, .int .i64 n.parent, .slice pk nk ck] 38)) (hv.below B0.out) hl)
  clear hl
  generalize fndS n.attrs s = R1 at *
  generalize hasA n s = R2 at *
  obtain ⟨p, c, rfl, hxx⟩ := hv
  clear hxx
  generalize n.name = n0 at *
  generalize n.text = n1 at *
  generalize n.parent = n3 at *
  generalize n.attrs.length = n5 at *
  go_enter Tryz.func51, Tryz.ntmps51
  go_wp2_with fail
  refine HC.out.mono ?_
  rintro e w1 ⟨rfl, b1⟩
  go_wp2_with fail
  go_ret
  exact ⟨rfl, chain B0.out b1⟩
set_option maxHeartbeats 8000000 in
theorem vaSubmits_any (v : Value) (l : List Nd) (id : Int) (w : World) (hv : NodesV w v l) (hz : DocSz l) (hT : KTabs w) :
    Calls Tryz.prog 11 #[v, .int .i64 id] w fun e w' => e = .returned (.bool (okB l subB id)) ∧ Below w.heap.size w w' := by
  obtain ⟨p, c, rfl⟩ := nds_formW hv
  by_cases h0 : 0 ≤ id
  · by_cases h1 : id < (l.length : Int)
    · obtain ⟨m, rfl⟩ : ∃ m : Nat, id = (m : Int) := ⟨id.toNat, by omega⟩
      have hm : m < l.length := by omega
      obtain ⟨b, o, va, pk, nk, ck, rfl, N⟩ := node_ofW hv hm
      have nz := hz.nds _ (List.getElem_mem hm)
      have HO := hide (fun W (hb : Below w.heap.size w W) => of_any l[m] va (.slice pk nk ck) W (hT.below hb) (N.at_.below hb) nz.attrs nz.tx)
      have EK : Hid (kOf l[m].name (tyOf l[m].attrs) = kI l (m : Int)) := by show _ = _; unfold kI kN; rw [Int.toNat_natCast, nd_at hm]
      rw [EK.out] at HO
      have E : Hid (okB l subB (m : Int) = subB (kI l (m : Int))) := ok_in ⟨h0, h1⟩
      have HS := hide (fun W => submits_any (kI l (m : Int)) W)
      obtain ⟨pa, ca, rfl, hxx⟩ := N.at_
      clear hxx
      have c0 := hide N.name
      have c1 := hide N.text
      have c2 := hide N.attrs
      have c3 := hide N.parent
      have c4 := hide N.kids
      have m0 : (0 : Int) ≤ (m : Int) := by omega
      have m1 : (m : Int) < (l.length : Int) := by omega
      clear N hv hz hT nz EK
      generalize subB (kI l (m : Int)) = R at *
      generalize kI l (m : Int) = kk at *
      generalize l[m].name = n0 at *
      generalize l[m].text = n1 at *
      generalize l[m].parent = n3 at *
      generalize l[m].attrs.length = n5 at *
      have B0 : Hid (Below w.heap.size w w) := Below.refl _ _
      have u0 := cell_below c0.out B0.out
      have u1 := cell_below c1.out B0.out
      have u2 := cell_below c2.out B0.out
      have u3 := cell_below c3.out B0.out
      have u4 := cell_below c4.out B0.out
      go_enter Tryz.func11, Tryz.ntmps11
      go_wp2_with fail
      refine (HO.out _ B0.out).mono ?_
      rintro e w1 ⟨rfl, b1⟩
      go_wp2_with fail
      refine (HS.out _).mono ?_
      rintro e w2 ⟨rfl, hu⟩
      obtain rfl : w1 = w2 := hu.symm
      go_wp2_with fail
      go_ret
      exact ⟨ret_bool E.out.symm, b1⟩
    · have E := hide (ok_out (l := l) (q := subB) (id := id) (fun t => h1 t.2))
      have d1 : decide (id < (l.length : Int)) = false := decide_eq_false h1
      clear hv hz hT
      go_enter Tryz.func11, Tryz.ntmps11
      go_wp2_with fail
      go_ret
      exact ⟨ret_bool E.out.symm, Below.refl _ _⟩
  · have E := hide (ok_out (l := l) (q := subB) (id := id) (fun t => h0 t.1))
    have d0 : decide (0 ≤ id) = false := decide_eq_false h0
    clear hv hz hT
    go_enter Tryz.func11, Tryz.ntmps11
    go_wp2_with fail
    go_ret
    exact ⟨ret_bool E.out.symm, Below.refl _ _⟩
set_option maxHeartbeats 8000000 in
theorem vaIsWithin_any (v : Value) (l : List Nd) (m0 : Nat) (kind : Int) (w : World) (hv : NodesV w v l) (hz : DocSz l) (hT : KTabs w) (hR : Right l) (h0 : m0 < l.length) :
    Calls Tryz.prog 29 #[v, .int .i64 (m0 : Int), .int .i64 kind] w fun e w' => e = .returned (.bool (winB l kind (m0 : Int))) ∧ Below w.heap.size w w' := by
  have HRt := hide hR
  have HC := hide (fun m hm W (hb : Below w.heap.size w W) => by
    obtain ⟨p, c, e⟩ := nds_formW hv
    have := hv.below hb
    rw [e] at this
    exact (⟨p, c, e, node_ofW (m := m) this hm⟩ : ∃ p c, v = .slice p l.length c ∧ ∃ b o va pk nk ck, p = some ⟨b, o, none⟩ ∧ NodeAt W b (o + m * 5) l[m] va (.slice pk nk ck)))
  have HK := hide (fun m (hm : m < l.length) va vk W (hb : Below w.heap.size w W) (ha : AttrsV W va l[m].attrs) => of_any l[m] va vk W (hT.below hb) ha (hz.nds _ (List.getElem_mem hm)).attrs (hz.nds _ (List.getElem_mem hm)).tx)
  obtain ⟨p, c, rfl⟩ := nds_formW hv
  obtain ⟨RES, hRES⟩ : ∃ R : Bool, winB l kind (m0 : Int) = R := ⟨_, rfl⟩
  rw [hRES]
  have EL : Hid ((anc l (parI l (m0 : Int))).any (fun x => kI l x == kind) = RES) := hRES
  obtain ⟨p', c', e', b, o, va, pk, nk, ck, rfl, N0⟩ := HC.out m0 h0 w (Below.refl _ _)
  cases e'
  have a3 := N0.parent
  have m1 : (m0 : Int) < (l.length : Int) := by omega
  have m0' : (0 : Int) ≤ (m0 : Int) := by omega
  have P0 : Hid (parI l (m0 : Int) = l[m0].parent) := parI_nat h0
  have pb0 := HRt.out.par m0 h0
  rw [nd_at h0] at pb0
  clear hRES hv hz hT hR N0
  generalize l[m0].parent = pr0 at *
  go_enter Tryz.func29, Tryz.ntmps29
  go_wp2_with fail
  go_loopw [7] (fun av wr => ∃ k : Int, (k = -1 ∨ (0 ≤ k ∧ k < (l.length : Int))) ∧ av = .int .i64 k ∧ Hid (RES = (anc l k).any (fun x => kI l x == kind)) ∧ Hid (Below w.heap.size w wr)) (fun av _ => hgt l (intOf av))
  case atStart => exact ⟨pr0, by omega, rfl, by show _ = _; rw [← P0.out]; exact EL.out.symm, Below.refl _ _⟩
  case round =>
    rename World => wr
    obtain ⟨k, hk, rfl, HE, BW⟩ := hrel
    clear EL P0 pb0 a3
    by_cases q1 : k = -1
    · have E1 : Hid (RES = false) := by show _ = _; rw [HE.out, anc_neg (by omega)]; rfl
      clear HK HC HE HRt hk
      subst q1
      go_wp2_with fail
      go_ret
      exact ⟨ret_bool E1.out.symm, BW.out⟩
    · obtain ⟨n, rfl⟩ : ∃ n : Nat, k = (n : Int) := ⟨k.toNat, by omega⟩
      have hn : n < l.length := by omega
      have f1 : ((n : Int) != -1) = true := by rw [bne_iff_ne]; omega
      have f2 : ((n : Int) == -1) = false := by rw [beq_eq_false_iff_ne]; omega
      have he := HRt.out.ende (show (n : Int) < (l.length : Int) by omega)
      have MS : Hid (hgt l (parI l (n : Int)) < hgt l (n : Int)) := by show _ < _; have := hgt_up he (by omega); omega
      have E0 : Hid (RES = ((kI l (n : Int) == kind) || (anc l (parI l (n : Int))).any (fun x => kI l x == kind))) := by show _ = _; rw [HE.out, anc_up he (by omega)]; rfl
      have pb := HRt.out.par n hn
      rw [nd_at hn] at pb
      obtain ⟨p2, c2, e2, b2, o2, va2, pk2, nk2, ck2, ep, N2⟩ := HC.out n hn wr BW.out
      cases e2
      cases ep
      have HO := hide (HK.out n hn va2 (.slice pk2 nk2 ck2) wr BW.out N2.at_)
      have EK : Hid (kOf l[n].name (tyOf l[n].attrs) = kI l (n : Int)) := by show _ = _; unfold kI kN; rw [Int.toNat_natCast, nd_at hn]
      rw [EK.out] at HO
      have P2 : Hid (parI l (n : Int) = l[n].parent) := parI_nat hn
      rw [P2.out] at MS E0
      have NN := hide N2
      obtain ⟨pa2, ca2, rfl, hxx⟩ := N2.at_
      clear hxx
      have c0 := N2.name
      have c1 := N2.text
      have c2 := N2.attrs
      have c3 := N2.parent
      have c4 := N2.kids
      have k0 : (0 : Int) ≤ (n : Int) := by omega
      have k1 : (n : Int) < (l.length : Int) := by omega
      clear HK HC HE HRt hk he P2 EK N2 q1
      cases hb : (kI l (n : Int) == kind) with
      | true =>
        rw [hb, Bool.true_or] at E0
        have hq : kI l (n : Int) = kind := by simpa using hb
        generalize kI l (n : Int) = kk at *
        generalize l[n].name = n0 at *
        generalize l[n].text = n1 at *
        generalize l[n].attrs.length = n5 at *
        clear NN MS pb
        generalize l[n].parent = n3 at *
        subst hq
        go_wp2_with fail
        refine HO.out.mono ?_
        rintro e w1 ⟨rfl, b1⟩
        go_wp2_with fail
        go_ret
        exact ⟨ret_bool E0.out.symm, chain BW.out b1⟩
      | false =>
        rw [hb, Bool.false_or] at E0
        have hq : ¬ kI l (n : Int) = kind := by simpa using hb
        have NP := hide (fun W (hb : Below wr.heap.size wr W) => (NN.out.below hb).parent)
        generalize kI l (n : Int) = kk at *
        generalize l[n].name = n0 at *
        generalize l[n].text = n1 at *
        generalize l[n].attrs.length = n5 at *
        clear NN
        generalize l[n].parent = n3 at *
        go_wp2_with fail
        refine HO.out.mono ?_
        rintro e w1 ⟨rfl, b1⟩
        have a5 := NP.out _ b1
        go_wp2_with fail
        go_round
        case rel => exact ⟨n3, by omega, rfl, E0, chain BW.out b1⟩
        case measure => exact MS.out
set_option maxHeartbeats 8000000 in
theorem vaCanBe_any (v : Value) (l : List Nd) (m : Nat) (w : World) (hv : NodesV w v l) (hz : DocSz l) (hT : KTabs w) (hm : m < l.length) :
    Calls Tryz.prog 28 #[v, .int .i64 (m : Int)] w fun e w' => e = .returned (.bool (!fixB l (m : Int))) ∧ Below w.heap.size w w' := by
  have HD := hide (fun W (hb : Below w.heap.size w W) => owDisabled_any v l (m : Int) W (hv.below hb) hz (hT.below hb))
  obtain ⟨p, c, rfl⟩ := nds_formW hv
  obtain ⟨b, o, va, pk, nk, ck, rfl, N⟩ := node_ofW hv hm
  have nz := hz.nds _ (List.getElem_mem hm)
  have HO := hide (fun W (hb : Below w.heap.size w W) => of_any l[m] va (.slice pk nk ck) W (hT.below hb) (N.at_.below hb) nz.attrs nz.tx)
  have EK : Hid (kOf l[m].name (tyOf l[m].attrs) = kI l (m : Int)) := by show _ = _; unfold kI kN; rw [Int.toNat_natCast, nd_at hm]
  rw [EK.out] at HO
  have HA := hide (fun W => applies_any (kI l (m : Int)) ⟨#[114, 101, 97, 100, 111, 110, 108, 121]⟩ W)
  have HH := hide (fun W (hb : Below w.heap.size w W) => vaHas_any l[m] va pk nk ck ⟨#[114, 101, 97, 100, 111, 110, 108, 121]⟩ W (N.at_.below hb) nz.attrs)
  have E : Hid ((!fixB l (m : Int)) = !((appB (kI l (m : Int)) ⟨#[114, 101, 97, 100, 111, 110, 108, 121]⟩ && hasA l[m] ⟨#[114, 101, 97, 100, 111, 110, 108, 121]⟩) || disabledP l (m : Int))) := by show _ = _; unfold fixB oRead; rw [Int.toNat_natCast, nd_at hm]
  obtain ⟨pa, ca, rfl, hxx⟩ := N.at_
  clear hxx
  have c0 := hide N.name
  have c1 := hide N.text
  have c2 := hide N.attrs
  have c3 := hide N.parent
  have c4 := hide N.kids
  have m0 : (0 : Int) ≤ (m : Int) := by omega
  have m1 : (m : Int) < (l.length : Int) := by omega
  clear N hv hz hT nz EK
  generalize (!fixB l (m : Int)) = RES at *
  generalize disabledP l (m : Int) = dis at *
  generalize appB (kI l (m : Int)) ⟨#[114, 101, 97, 100, 111, 110, 108, 121]⟩ = ap at *
  generalize hasA l[m] ⟨#[114, 101, 97, 100, 111, 110, 108, 121]⟩ = ha at *
  generalize kI l (m : Int) = kk at *
  generalize l[m].name = n0 at *
  generalize l[m].text = n1 at *
  generalize l[m].parent = n3 at *
  generalize l[m].attrs.length = n5 at *
  have B0 : Hid (Below w.heap.size w w) := Below.refl _ _
  have u0 := cell_below c0.out B0.out
  have u1 := cell_below c1.out B0.out
  have u2 := cell_below c2.out B0.out
  have u3 := cell_below c3.out B0.out
  have u4 := cell_below c4.out B0.out
  cases ha
  · rw [Bool.and_false, Bool.false_or] at E
    clear HO HA
    go_enter Tryz.func28, Tryz.ntmps28
    go_wp2_with fail
    refine (HH.out _ B0.out).mono ?_
    rintro e w1 ⟨rfl, b1⟩
    have B1 := hide (chain B0.out b1)
    clear b1 B0 u0 u1 u2 u3 u4
    go_wp2_with fail
    refine (HD.out _ B1.out).mono ?_
    rintro e w3 ⟨rfl, b3⟩
    go_wp2_with fail
    go_ret
    exact ⟨ret_bool E.out.symm, chain B1.out b3⟩
  · rw [Bool.and_true] at E
    cases ap
    · rw [Bool.false_or] at E
      go_enter Tryz.func28, Tryz.ntmps28
      go_wp2_with fail
      refine (HH.out _ B0.out).mono ?_
      rintro e w1 ⟨rfl, b1⟩
      have B1 := hide (chain B0.out b1)
      clear b1 B0 u0 u1 u2 u3 u4
      have u0 := cell_below c0.out B1.out
      have u1 := cell_below c1.out B1.out
      have u2 := cell_below c2.out B1.out
      have u3 := cell_below c3.out B1.out
      have u4 := cell_below c4.out B1.out
      go_wp2_with fail
      refine (HO.out _ B1.out).mono ?_
      rintro e w2 ⟨rfl, b2⟩
      have B2 := hide (chain B1.out b2)
      clear b2 B1 u0 u1 u2 u3 u4
      go_wp2_with fail
      refine (HA.out _).mono ?_
      rintro e u ⟨rfl, hu⟩
      obtain rfl : w2 = u := hu.symm
      go_wp2_with fail
      refine (HD.out _ B2.out).mono ?_
      rintro e w3 ⟨rfl, b3⟩
      go_wp2_with fail
      go_ret
      exact ⟨ret_bool E.out.symm, chain B2.out b3⟩
    · rw [Bool.true_or] at E
      clear HD
      go_enter Tryz.func28, Tryz.ntmps28
      go_wp2_with fail
      refine (HH.out _ B0.out).mono ?_
      rintro e w1 ⟨rfl, b1⟩
      have B1 := hide (chain B0.out b1)
      clear b1 B0 u0 u1 u2 u3 u4
      have u0 := cell_below c0.out B1.out
      have u1 := cell_below c1.out B1.out
      have u2 := cell_below c2.out B1.out
      have u3 := cell_below c3.out B1.out
      have u4 := cell_below c4.out B1.out
      go_wp2_with fail
      refine (HO.out _ B1.out).mono ?_
      rintro e w2 ⟨rfl, b2⟩
      have B2 := hide (chain B1.out b2)
      clear b2 B1 u0 u1 u2 u3 u4
      go_wp2_with fail
      refine (HA.out _).mono ?_
      rintro e u ⟨rfl, hu⟩
      obtain rfl : w2 = u := hu.symm
      go_wp2_with fail
      go_ret
      exact ⟨ret_bool E.out.symm, B2.out⟩
set_option maxHeartbeats 8000000 in
theorem vaIsBarred_any (v : Value) (l : List Nd) (m : Nat) (w : World) (hv : NodesV w v l) (hz : DocSz l) (hT : KTabs w) (hR : Right l) (hm : m < l.length) :
    Calls Tryz.prog 13 #[v, .int .i64 (m : Int)] w fun e w' => e = .returned (.bool (isBar l (m : Int))) ∧ Below w.heap.size w w' := by
  have HC := hide (fun W (hb : Below w.heap.size w W) => vaCanBe_any v l m W (hv.below hb) hz (hT.below hb) hm)
  have HW := hide (fun W (hb : Below w.heap.size w W) => vaIsWithin_any v l m 35 W (hv.below hb) hz (hT.below hb) hR hm)
  obtain ⟨p, c, rfl⟩ := nds_formW hv
  obtain ⟨b, o, va, pk, nk, ck, rfl, N⟩ := node_ofW hv hm
  have nz := hz.nds _ (List.getElem_mem hm)
  have HO := hide (fun W (hb : Below w.heap.size w W) => of_any l[m] va (.slice pk nk ck) W (hT.below hb) (N.at_.below hb) nz.attrs nz.tx)
  have EK : Hid (kOf l[m].name (tyOf l[m].attrs) = kI l (m : Int)) := by show _ = _; unfold kI kN; rw [Int.toNat_natCast, nd_at hm]
  rw [EK.out] at HO
  have E : Hid (isBar l (m : Int) = (((kI l (m : Int) == 1) || ((kI l (m : Int) == 21) || ((kI l (m : Int) == 22) || ((kI l (m : Int) == 26) || (kI l (m : Int) == 27))))) || (fixB l (m : Int) || winB l 35 (m : Int)))) := (rfl : _ = _)
  obtain ⟨pa, ca, rfl, hxx⟩ := N.at_
  clear hxx
  have c0 := hide N.name
  have c1 := hide N.text
  have c2 := hide N.attrs
  have c3 := hide N.parent
  have c4 := hide N.kids
  have m0 : (0 : Int) ≤ (m : Int) := by omega
  have m1 : (m : Int) < (l.length : Int) := by omega
  clear N hv hz hT nz EK hR
  generalize isBar l (m : Int) = RES at *
  generalize fixB l (m : Int) = fx at *
  generalize winB l 35 (m : Int) = wn at *
  generalize kI l (m : Int) = kk at *
  generalize l[m].name = n0 at *
  generalize l[m].text = n1 at *
  generalize l[m].parent = n3 at *
  generalize l[m].attrs.length = n5 at *
  have B0 : Hid (Below w.heap.size w w) := Below.refl _ _
  have u0 := cell_below c0.out B0.out
  have u1 := cell_below c1.out B0.out
  have u2 := cell_below c2.out B0.out
  have u3 := cell_below c3.out B0.out
  have u4 := cell_below c4.out B0.out
  by_cases hk : kk = 1 ∨ kk = 21 ∨ kk = 22 ∨ kk = 26 ∨ kk = 27
  · have E1 : Hid (RES = true) := by show _ = _; rw [E.out]; rcases hk with rfl | rfl | rfl | rfl | rfl <;> rfl
    clear E HC HW
    rcases hk with rfl | rfl | rfl | rfl | rfl
    all_goals
      go_enter Tryz.func13, Tryz.ntmps13
      go_wp2_with fail
      refine (HO.out _ B0.out).mono ?_
      rintro e w1 ⟨rfl, b1⟩
      go_wp2_with fail
      go_ret
      exact ⟨ret_bool E1.out.symm, b1⟩
  · have q1 : (kk == 1) = false := by rw [beq_eq_false_iff_ne]; omega
    have q2 : (kk == 21) = false := by rw [beq_eq_false_iff_ne]; omega
    have q3 : (kk == 22) = false := by rw [beq_eq_false_iff_ne]; omega
    have q4 : (kk == 26) = false := by rw [beq_eq_false_iff_ne]; omega
    have q5 : (kk == 27) = false := by rw [beq_eq_false_iff_ne]; omega
    have E1 : Hid (RES = (fx || wn)) := by show _ = _; rw [E.out, q1, q2, q3, q4, q5]; rfl
    have z1 : ¬ kk = 1 := by omega
    have z2 : ¬ kk = 21 := by omega
    have z3 : ¬ kk = 22 := by omega
    have z4 : ¬ kk = 26 := by omega
    have z5 : ¬ kk = 27 := by omega
    clear E hk
    go_enter Tryz.func13, Tryz.ntmps13
    go_wp2_with fail
    refine (HO.out _ B0.out).mono ?_
    rintro e w1 ⟨rfl, b1⟩
    go_wp2_with fail
    refine (HC.out _ b1).mono ?_
    rintro e w2 ⟨rfl, b2⟩
    have B2 := hide (chain b1 b2)
    clear b2 u0 u1 u2 u3 u4
    cases fx
    · rw [Bool.false_or] at E1
      go_wp2_with fail
      refine (HW.out _ B2.out).mono ?_
      rintro e w3 ⟨rfl, b3⟩
      go_wp2_with fail
      go_ret
      exact ⟨ret_bool E1.out.symm, chain B2.out b3⟩
    · rw [Bool.true_or] at E1
      go_wp2_with fail
      go_ret
      exact ⟨ret_bool E1.out.symm, B2.out⟩
set_option maxHeartbeats 8000000 in
theorem vaBarred_any (v : Value) (l : List Nd) (id : Int) (w : World) (hv : NodesV w v l) (hz : DocSz l) (hT : KTabs w) :
    Calls Tryz.prog 5 #[v, .int .i64 id] w fun e w' => e = .returned (.bool (barP l id)) ∧ Below w.heap.size w w' := by
  have HS := hide (fun W (hb : Below w.heap.size w W) => vaSubmits_any v l id W (hv.below hb) hz (hT.below hb))
  have HRt := hide (fun W (hb : Below w.heap.size w W) => right_any v l W (hv.below hb) hz)
  have E : Hid (barP l id = (!okB l subB id || (!rightB l || isBar l id))) := barP_is
  have HI := hide (fun (m : Nat) (hm : m < l.length) (hR : Right l) W (hb : Below w.heap.size w W) => vaIsBarred_any v l m W (hv.below hb) hz (hT.below hb) hR hm)
  obtain ⟨p, c, rfl⟩ := nds_formW hv
  clear hv hz hT
  generalize barP l id = RES at *
  cases hs : okB l subB id with
  | false =>
    rw [hs] at HS E
    clear HRt HI hs
    go_enter Tryz.func5, Tryz.ntmps5
    go_wp2_with fail
    refine (HS.out _ (Below.refl _ _)).mono ?_
    rintro e w1 ⟨rfl, b1⟩
    go_wp2_with fail
    go_ret
    exact ⟨ret_bool E.out.symm, b1⟩
  | true =>
    obtain ⟨m, em, hm⟩ := ok_rng hs
    rw [hs] at HS E
    cases hr : rightB l with
    | false =>
      rw [hr] at HRt E
      clear HI hr hs em hm
      go_enter Tryz.func5, Tryz.ntmps5
      go_wp2_with fail
      refine (HS.out _ (Below.refl _ _)).mono ?_
      rintro e w1 ⟨rfl, b1⟩
      go_wp2_with fail
      refine (HRt.out _ b1).mono ?_
      rintro e w2 ⟨rfl, b2⟩
      go_wp2_with fail
      go_ret
      exact ⟨ret_bool E.out.symm, chain b1 b2⟩
    | true =>
      have HJ := hide (HI.out m hm (right_is.1 hr))
      rw [hr] at HRt E
      subst em
      clear HI hr hs hm
      generalize isBar l (m : Int) = ib at *
      go_enter Tryz.func5, Tryz.ntmps5
      go_wp2_with fail
      refine (HS.out _ (Below.refl _ _)).mono ?_
      rintro e w1 ⟨rfl, b1⟩
      go_wp2_with fail
      refine (HRt.out _ b1).mono ?_
      rintro e w2 ⟨rfl, b2⟩
      have B2 := hide (chain b1 b2)
      go_wp2_with fail
      refine (HJ.out _ B2.out).mono ?_
      rintro e w3 ⟨rfl, b3⟩
      go_wp2_with fail
      go_ret
      exact ⟨ret_bool E.out.symm, chain B2.out b3⟩

end Go.Proofs.YtdbabciafifnaaaGreatDoor
