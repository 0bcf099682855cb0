/- The program's areLinked of layer 10. The program's areReached, Right, isThere of layer 10. The program's isThere, Order, upwards of layer 10. -/
import Derived.Test.YtnojgejcmaajmaaGreatDoorJsb3
import Derived.Laws.MakeOwn

namespace Go.Proofs.YtnojgejcmaajmaaGreatDoor
open Go.RowKit
/-- A bool is answered, of which P holds. -/
def AnsB (P : Bool → Prop) (e : Ending) : Prop := ∃ r : Bool, e = .returned (.bool r) ∧ P r
/-- A row of marks in a block of the call's own. -/
structure Lst (w : World) (n : Nat) (L : Nat → Bool) : Prop where
  cell : ∀ x, x < 400 → w.cell? ⟨n, x, none⟩ = some (.bool (L x))
  free : ∀ x, w.frozen? ⟨n, x, none⟩ = false
def Tryz.zeroCells162 : Array Value := Array.replicate 400 (.bool false)
theorem marksInfo : (Tryz.prog.info? 162).map (fun i => i.zero) = some (some (.agg (Array.replicate 400 (.bool false)))) := by kernel_rfl
theorem Tryz.zeroValue162 (w : World) : (zeroValue 162).run Tryz.prog w = .ok (.agg Tryz.zeroCells162) w := by
  obtain ⟨i, hi, hz⟩ := Option.map_eq_some_iff.1 marksInfo
  simp [zeroValue, typeInfo, hi, hz]
  rfl
/-- The row as it begins (marksInfo). -/
theorem marks_zero : Tryz.zeroCells162 = Array.replicate 400 (.bool false) := by kernel_rfl
theorem Lst.new (w : World) : Lst (w.alloc (.cells Tryz.zeroCells162 162)) w.heap.size (fun _ => false) := by
  refine ⟨fun x hx => ?_, fun x => ?_⟩
  · rw [cell_of_row _ _ _ _ _ _ (heap_alloc_new w _), marks_zero]
    simp [hx]
  · simp only [World.frozen?]
    rw [heap_alloc_new]
    simp
theorem Lst.set {w : World} {n : Nat} {L : Nat → Bool} (h : Lst w n L) {y : Nat} (hy : y < 400) : Lst (w.setCell ⟨n, y, none⟩ (.bool true)) n (fun x => if x = y then true else L x) := by
  refine ⟨fun x hx => ?_, fun x => ?_⟩
  · by_cases e : x = y
    · subst e
      rw [if_pos rfl]
      exact World.cell?_setCell_same _ _ _ (by rw [h.cell x hx])
    · rw [if_neg e, World.cell?_setCell_other _ _ _ _ (fun q => e (by cases q; rfl))]
      exact h.cell x hx
  · have := h.free x
    rw [← this]
    exact World.frozen?_setCell ..
theorem parI_nat {l : List Nd} {m : Nat} (h : m < l.length) : parI l (m : Int) = l[m].parent := by unfold parI; rw [Int.toNat_natCast, nd_at h]
/-- So far all is linked. -/
structure LinkTo (l : List Nd) (i : Nat) : Prop where
  kid : ∀ i', i' < i → ∀ c ∈ (nd l i').kids, inR l c ∧ parI l c = (i' : Int)
  once : ∀ i', i' < i → (nd l i').kids.Nodup
theorem link_more {l : List Nd} {i : Nat} (h : LinkTo l i) (h1 : ∀ c ∈ (nd l i).kids, inR l c ∧ parI l c = (i : Int)) (h2 : (nd l i).kids.Nodup) : LinkTo l (i + 1) := by
  refine ⟨fun i' hi => ?_, fun i' hi => ?_⟩
  · rcases Nat.lt_or_ge i' i with q | q
    · exact h.kid i' q
    · obtain rfl : i' = i := by omega
      exact h1
  · rcases Nat.lt_or_ge i' i with q | q
    · exact h.once i' q
    · obtain rfl : i' = i := by omega
      exact h2
def seenB (l : List Nd) (i : Nat) (x : Int) : Prop := ∃ i', i' < i ∧ x ∈ (nd l i').kids
theorem seen_more {l : List Nd} {i : Nat} {x : Int} : seenB l (i + 1) x ↔ seenB l i x ∨ x ∈ (nd l i).kids := by
  constructor
  · rintro ⟨i', h1, h2⟩
    rcases Nat.lt_or_ge i' i with q | q
    · exact .inl ⟨i', q, h2⟩
    · obtain rfl : i' = i := by omega
      exact .inr h2
  · rintro (⟨i', h1, h2⟩ | h)
    · exact ⟨i', by omega, h2⟩
    · exact ⟨i, by omega, h⟩
set_option maxHeartbeats 4000000 in
set_option maxRecDepth 100000 in
theorem areLinked_any (v : Value) (l : List Nd) (w : World) (hv : NodesV w v l) (hz : DocSz l) (h4 : l.length ≤ 400) :
    Calls Tryz.prog 137 #[v] w fun e w' => AnsB (fun r => r = true ↔ Linked l) e ∧ Below w.heap.size w w' := by
  obtain ⟨p, c, rfl, hv⟩ := hv
  have HV := hide hv
  have HZ := hide hz
  have zm := Tryz.zeroValue162
  clear hv hz
  go_enter Tryz.func137, Tryz.ntmps137
  go_wp2_with fail
  generalize hw1 : w.alloc (.cells Tryz.zeroCells162 162) = w1
  have L1 : Hid (Lst w1 w.heap.size (fun _ => false)) := by rw [← hw1]; exact Lst.new w
  have B1 : Hid (Below w.heap.size w w1) := by rw [← hw1]; exact (Below.refl _ w).alloc (Nat.le_refl _) _
  have S1 : Hid (w.heap.size < w1.heap.size) := by rw [← hw1]; show _ < _; simp
  clear hw1 zm
  go_loopw [9] (fun iv wr => ∃ (i : Nat) (L : Nat → Bool), i ≤ l.length ∧ iv = .int .i64 i ∧ Hid (Lst wr w.heap.size L) ∧ Hid (∀ x : Nat, L x = true ↔ seenB l i (x : Int)) ∧ Hid (LinkTo l i) ∧ Hid (Below w.heap.size w wr)) (fun iv _ => l.length - (intOf iv).toNat)
  case atStart => exact ⟨0, _, Nat.zero_le _, rfl, L1, (fun x => ⟨(fun q => by cases q), fun ⟨i', q, _⟩ => by omega⟩), ⟨fun i' q => by omega, fun i' q => by omega⟩, B1⟩
  case round =>
    rename World => wr
    obtain ⟨i, L, hi, rfl, HL, HS, LT, BW⟩ := hrel
    clear L1 B1 S1
    by_cases h : i < l.length
    · have i1 : (i : Int) < (l.length : Int) := by omega
      have i0 : (0 : Int) ≤ (i : Int) := by omega
      obtain ⟨b, o, rfl, hcell⟩ : ∃ b o, p = some ⟨b, o, none⟩ ∧ ∀ i (h : i < l.length), ∃ va vk, NodeAt w b (o + i * 5) l[i] va vk := by
        rcases HV.out with q | q
        · rw [q] at h; simp at h
        · exact q
      have HC := hide hcell
      obtain ⟨va, vk, N0⟩ := hcell i h
      have a4 := (N0.below BW.out).kids
      obtain ⟨pk, ck, rfl, hk⟩ := N0.ks
      have HK := hide hk
      have kz := (HZ.out.nds l[i] (List.getElem_mem _)).kids
      have KN : Hid ((nd l i).kids = l[i].kids) := by show _ = _; rw [nd_at h]
      clear hk N0 hcell
      go_wp2_with fail
      go_loopw [18] (fun jv wq => ∃ (j : Nat) (L : Nat → Bool), j ≤ l[i].kids.length ∧ jv = .int .i64 j ∧ Hid (Lst wq w.heap.size L) ∧ Hid (∀ x : Nat, L x = true ↔ seenB l i (x : Int) ∨ (x : Int) ∈ l[i].kids.take j) ∧ Hid (∀ c ∈ l[i].kids.take j, inR l c ∧ parI l c = (i : Int)) ∧ Hid ((l[i].kids.take j).Nodup) ∧ Hid (Below w.heap.size w wq)) (fun jv _ => l[i].kids.length - (intOf jv).toNat)
      case atStart => exact ⟨0, L, Nat.zero_le _, rfl, HL, (fun x => by rw [List.take_zero]; simpa using HS.out x), (fun c q => by rw [List.take_zero] at q; cases q), by show List.Nodup _; rw [List.take_zero]; exact List.nodup_nil, BW⟩
      case round =>
        rename World => wq
        obtain ⟨j, L2, hj, rfl, HL2, HS2, HK2, HD2, BW2⟩ := hrel
        clear HL HS BW a4
        by_cases hjj : j < l[i].kids.length
        · have j1 : (j : Int) < (l[i].kids.length : Int) := by omega
          have j0 : (0 : Int) ≤ (j : Int) := by omega
          obtain ⟨bk, ok, rfl, hk⟩ : ∃ bk ok, pk = some ⟨bk, ok, none⟩ ∧ ∀ t (h : t < l[i].kids.length), w.cell? ⟨bk, ok + t, none⟩ = some (.int .i64 l[i].kids[t]) := by
            rcases HK.out with q | q
            · rw [q] at hjj; simp at hjj
            · exact q
          have a5 := cell_below (hk j hjj) BW2.out
          have NO : Hid (¬ (inR l l[i].kids[j] ∧ parI l l[i].kids[j] = (i : Int)) → (false = true ↔ Linked l)) := fun q => ⟨(fun r => by cases r), fun r => absurd (r.kid i h l[i].kids[j] (by rw [KN.out]; exact List.getElem_mem _)) q⟩
          have e2 : l[i].kids.take (j + 1) = l[i].kids.take j ++ [l[i].kids[j]] := List.take_succ_eq_append_getElem hjj
          have TW : Hid (l[i].kids[j] ∈ l[i].kids.take j → (false = true ↔ Linked l)) := fun q => ⟨(fun r => by cases r), fun r => by
            have := r.once i h
            rw [KN.out, ← List.take_append_drop (j + 1) l[i].kids, e2, List.append_assoc, List.nodup_append] at this
            exact absurd rfl (this.2.2 _ q _ (List.mem_append_left _ (List.mem_singleton.2 rfl)))⟩
          have E2 := hide e2
          clear hk e2
          generalize l[i].kids[j] = kc at *
          by_cases q1 : kc < 0
          · have E := hide (NO.out (fun r => by have := r.1.1; omega))
            clear NO TW E2
            go_wp2_with fail
            go_ret
            exact ⟨⟨false, rfl, E.out⟩, BW2.out⟩
          · by_cases q2 : (l.length : Int) ≤ kc
            · have E := hide (NO.out (fun r => by have := r.1.2; omega))
              have d1 : decide (kc < 0) = false := decide_eq_false q1
              clear NO TW E2
              go_wp2_with fail
              go_ret
              exact ⟨⟨false, rfl, E.out⟩, BW2.out⟩
            · obtain ⟨m, rfl⟩ : ∃ m : Nat, kc = (m : Int) := ⟨kc.toNat, by omega⟩
              have hm : m < l.length := by omega
              have d2 : decide ((l.length : Int) ≤ (m : Int)) = false := decide_eq_false q2
              obtain ⟨vm, km, NM⟩ := HC.out m hm
              have a6 := (NM.below BW2.out).parent
              have m0 : (0 : Int) ≤ (m : Int) := by omega
              have m1 : (m : Int) < (l.length : Int) := by omega
              have m4 : (m : Int) < 400 := by omega
              have PM := hide (parI_nat hm)
              have a7 := HL2.out.cell m (by omega)
              have a8 := HL2.out.free m
              have HM2 := hide (HS2.out m)
              clear NM
              by_cases q3 : l[m].parent = (i : Int)
              · have f1 : (l[m].parent != (i : Int)) = false := by rw [q3]; simp
                have f2 : (l[m].parent == (i : Int)) = true := by rw [q3]; simp
                have PE : Hid (inR l (m : Int) ∧ parI l (m : Int) = (i : Int)) := ⟨⟨m0, m1⟩, by rw [PM.out, q3]⟩
                clear q3
                generalize l[m].parent = pm at *
                cases q4 : L2 m with
                | true =>
                  rw [q4] at a7
                  have E : Hid (false = true ↔ Linked l) := by
                    rcases HM2.out.1 q4 with ⟨i', r1, r2⟩ | r
                    · have := (LT.out.kid i' r1 _ r2).2
                      rw [PE.out.2] at this
                      omega
                    · exact TW.out r
                  clear NO TW E2 HM2 PM q4
                  go_wp2_with fail
                  go_ret
                  exact ⟨⟨false, rfl, E.out⟩, BW2.out⟩
                | false =>
                  rw [q4] at a7
                  have NM : Hid (¬ (m : Int) ∈ l[i].kids.take j) := fun r => by
                    have := HM2.out.2 (.inr r)
                    rw [q4] at this; cases this
                  clear NO TW HM2 PM q4
                  go_wp2_with fail
                  go_roundw
                  case rel =>
                    refine ⟨j + 1, _, by omega, by go_num, HL2.out.set (y := m) (by omega), (fun x => ?_), (fun c hc => ?_), ?_, BW2.out.setCell (Nat.le_refl _) _⟩
                    · rw [E2.out, List.mem_append, List.mem_singleton]
                      by_cases e : x = m
                      · subst e; rw [if_pos rfl]; exact ⟨fun _ => .inr (.inr rfl), fun _ => rfl⟩
                      · rw [if_neg e, HS2.out x]
                        constructor
                        · rintro (r | r)
                          · exact .inl r
                          · exact .inr (.inl r)
                        · rintro (r | r | r)
                          · exact .inl r
                          · exact .inr r
                          · omega
                    · rw [E2.out] at hc
                      rcases List.mem_append.1 hc with r | r
                      · exact HK2.out c r
                      · rw [List.mem_singleton.1 r]; exact PE.out
                    · show List.Nodup _
                      rw [E2.out, List.nodup_append]
                      exact ⟨HD2.out, by simp, fun a ha b hb e => by rw [List.mem_singleton.1 hb] at e; rw [e] at ha; exact NM.out ha⟩
                  case measure => simp [intOf]; omega
              · have f1 : (l[m].parent != (i : Int)) = true := by rw [bne_iff_ne]; exact q3
                have f2 : (l[m].parent == (i : Int)) = false := by rw [beq_eq_false_iff_ne]; exact q3
                have E := hide (NO.out (fun r => q3 (by rw [← PM.out]; exact r.2)))
                clear NO TW E2 PM q3 HM2
                generalize l[m].parent = pm at *
                go_wp2_with fail
                go_ret
                exact ⟨⟨false, rfl, E.out⟩, BW2.out⟩
        · obtain rfl : j = l[i].kids.length := by omega
          have F1 := HS2.out
          have F2 := HK2.out
          have F3 := HD2.out
          rw [List.take_length, ← KN.out] at F1 F2 F3
          have G1 : Hid (∀ x : Nat, L2 x = true ↔ seenB l (i + 1) (x : Int)) := fun x => by rw [seen_more]; exact F1 x
          have G2 : Hid (LinkTo l (i + 1)) := link_more LT.out F2 F3
          clear F1 F2 F3 hjj
          go_wp2_with fail
          go_roundw
          case rel => exact ⟨i + 1, L2, by omega, by go_num, HL2, G1, G2, BW2⟩
          case measure => simp [intOf]; omega
    · obtain rfl : i = l.length := by omega
      clear h
      go_wp2_with fail
      go_ret
      exact ⟨⟨true, rfl, ⟨fun _ => ⟨LT.out.kid, LT.out.once⟩, fun _ => rfl⟩⟩, BW.out⟩
end Go.Proofs.YtnojgejcmaajmaaGreatDoor

namespace Go.Proofs.YtnojgejcmaajmaaGreatDoor
open Go.RowKit
def rootsTo (l : List Nd) (i : Nat) : List Int := ((List.range i).filter fun i => (nd l i).parent == -1).map fun i : Nat => (i : Int)
theorem rootsTo_succ (l : List Nd) (i : Nat) : rootsTo l (i + 1) = rootsTo l i ++ (if (nd l i).parent = -1 then [(i : Int)] else []) := by
  unfold rootsTo
  rw [List.range_succ, List.filter_append, List.map_append]
  congr 1
  by_cases h : (nd l i).parent = -1
  · rw [if_pos h, List.filter_cons, if_pos (by rw [h]; rfl)]; rfl
  · rw [if_neg h, List.filter_cons, if_neg (by rw [beq_iff_eq]; exact h)]; rfl
theorem rootsTo_sub {l : List Nd} {i : Nat} (h : i ≤ l.length) : ((rootsTo l i).flatMap (downF l l.length)).length ≤ (allL l).length := by
  obtain ⟨k, hk⟩ : ∃ k, l.length = i + k := ⟨l.length - i, by omega⟩
  unfold allL rootsL rootsTo
  rw [show List.range l.length = List.range (i + k) by rw [hk], List.range_add, List.filter_append, List.map_append, List.flatMap_append, List.length_append]
  omega
theorem all_len {l : List Nd} (h : Linked l) : (allL l).length ≤ l.length := nodup_len _ _ (all_nodup h) fun _ hx => all_range h hx
set_option maxHeartbeats 4000000 in
set_option maxRecDepth 100000 in
theorem areReached_any (v : Value) (l : List Nd) (w : World) (hv : NodesV w v l) (h4 : l.length ≤ 400) (hl : Linked l) :
    Calls Tryz.prog 138 #[v] w fun e w' => e = .returned (.bool (decide ((allL l).length = l.length))) ∧ Below w.heap.size w w' := by
  have HV := hide hv
  obtain ⟨p, c, rfl, hv⟩ := hv
  have HP := hide hv
  obtain ⟨iI, hI0, hI1, hI2, hI3⟩ := info_parts infoI
  have MK := hide (fun w => run_make (P := Tryz.prog) w 55 3 iI (.int .i64 0) Tryz.underlying55 hI0 hI1 .i64 .i64 (0 : Int) (l.length : Int) (by omega) (by omega) (by rw [hI3]; omega) (by omega))
  rw [hI2] at MK
  have HLk := hide hl
  have HD := hide (fun (k : Int) (xs : List Int) (lv : Value) (W : World) => down_any w _ l HV.out l.length k xs lv W)
  have mk := fun w => MK.out w
  clear hv hl hI0 hI1 hI2 hI3
  go_enter Tryz.func138, Tryz.ntmps138
  go_wp2_with fail
  generalize hw1 : w.alloc (.cells (madeCells #[Value.int .i64 0] l.length) 3) = w1
  have K1 : Hid (KidsO w.heap.size w1 (.slice (some ⟨w.heap.size, 0, none⟩) 0 l.length) []) := by
    rw [← hw1]
    exact World.ownsRow_made w _ _ (Nat.le_refl _) (by unfold maxLen; omega) (by rw [size_madeCells]; simp)
  have B1 : Hid (Below w.heap.size w w1) := by rw [← hw1]; exact (Below.refl _ w).alloc (Nat.le_refl _) _
  clear hw1 mk MK
  go_loopw [3, 10] (fun sv iv wr => ∃ i : Nat, i ≤ l.length ∧ iv = .int .i64 i ∧ Hid (KidsO w.heap.size wr sv ((rootsTo l i).flatMap (downF l l.length))) ∧ Hid (Below w.heap.size w wr)) (fun _ iv _ => l.length - (intOf iv).toNat)
  case atStart => exact ⟨0, Nat.zero_le _, rfl, K1, B1⟩
  case round =>
    rename World => wr
    obtain ⟨i, hi, rfl, KO, BW⟩ := hrel
    clear K1 B1
    by_cases h : i < l.length
    · have i1 : (i : Int) < (l.length : Int) := by omega
      have i0 : (0 : Int) ≤ (i : Int) := by omega
      obtain ⟨b, o, rfl, hcell⟩ : ∃ b o, p = some ⟨b, o, none⟩ ∧ ∀ i (h : i < l.length), ∃ va vk, NodeAt w b (o + i * 5) l[i] va vk := by
        rcases HP.out with q | q
        · rw [q] at h; simp at h
        · exact q
      obtain ⟨va, vk, N0⟩ := hcell i h
      have a3 := (N0.below BW.out).parent
      have E := rootsTo_succ l i
      rw [nd_at h] at E
      have PI := hide (parI_nat h)
      have ER := hide E
      clear N0 hcell E
      by_cases q : l[i].parent = -1
      · have f1 : (l[i].parent == -1) = true := by rw [q]; rfl
        have f2 : (l[i].parent != -1) = false := by rw [q]; rfl
        have e1 : rootsTo l (i + 1) = rootsTo l i ++ [(i : Int)] := by rw [ER.out, if_pos q]
        have hs : Sub l l.length (i : Int) := root_sub HLk.out (mem_roots.2 ⟨⟨i0, i1⟩, by rw [PI.out, q]⟩)
        have e2 : (rootsTo l (i + 1)).flatMap (downF l l.length) = (rootsTo l i).flatMap (downF l l.length) ++ downF l l.length (i : Int) := by rw [e1, List.flatMap_append, List.flatMap_singleton]
        have L1 := rootsTo_sub (l := l) (i := i + 1) (by omega)
        have L2 := all_len HLk.out
        have HC := hide (HD.out (i : Int) _ _ wr BW.out KO.out hs (by rw [e2, List.length_append] at L1; omega))
        rw [← e2] at HC
        clear q e1 hs e2 L1 L2 ER PI KO HD
        generalize l[i].parent = pm at *
        go_wp2_with fail
        refine HC.out.mono ?_
        rintro e w2 ⟨v2, rfl, k2, b2⟩
        go_wp2_with fail
        go_roundw
        case rel => exact ⟨i + 1, by omega, by go_num, k2, b2⟩
        case measure => simp [intOf]; omega
      · have f1 : (l[i].parent == -1) = false := by rw [beq_eq_false_iff_ne]; exact q
        have f2 : (l[i].parent != -1) = true := by rw [bne_iff_ne]; exact q
        have e1 : rootsTo l (i + 1) = rootsTo l i := by rw [ER.out, if_neg q, List.append_nil]
        have KO' := hide KO.out
        rw [← e1] at KO'
        clear q e1 ER PI KO HD
        generalize l[i].parent = pm at *
        go_wp2_with fail
        go_roundw
        case rel => exact ⟨i + 1, by omega, by go_num, KO', BW⟩
        case measure => simp [intOf]; omega
    · obtain rfl : i = l.length := by omega
      have KF := KO.out
      have e1 : (rootsTo l l.length).flatMap (downF l l.length) = allL l := rfl
      rw [e1] at KF
      obtain ⟨pp, cc, ev, _⟩ := KF.ints
      have E : Hid ((((allL l).length : Int) == (l.length : Int)) = decide ((allL l).length = l.length)) := by
        show _ = _
        by_cases t : (allL l).length = l.length
        · rw [decide_eq_true t, t]; simp
        · rw [decide_eq_false t, beq_eq_false_iff_ne]; omega
      clear KF e1 KO h HD
      subst ev
      go_wp2_with fail
      go_ret
      exact ⟨ret_bool E.out, BW.out⟩
theorem not_right {l : List Nd} (h : ¬ Right l) : rightB l = false := by
  cases q : rightB l with
  | false => rfl
  | true => exact absurd (right_is.1 q) h
set_option maxHeartbeats 4000000 in
set_option maxRecDepth 100000 in
theorem right_any (v : Value) (l : List Nd) (w : World) (hv : NodesV w v l) (hz : DocSz l) :
    Calls Tryz.prog 73 #[v] w fun e w' => e = .returned (.bool (rightB l)) ∧ Below w.heap.size w w' := by
  have HV := hide hv
  obtain ⟨p, c, rfl, hv⟩ := hv
  have HP := hide hv
  have hlen := hz.len
  have HZ := hide hz
  clear hv hz
  by_cases h1 : l.length < 1
  · have E := hide (not_right (l := l) (fun r => by have := r.len; omega))
    have i1 : (l.length : Int) < 1 := by omega
    clear h1
    go_enter Tryz.func73, Tryz.ntmps73
    go_wp2_with fail
    go_ret
    exact ⟨ret_bool E.out.symm, Below.refl _ _⟩
  by_cases h2 : 400 < l.length
  · have E := hide (not_right (l := l) (fun r => by have := r.len; omega))
    have i1 : ¬ (l.length : Int) < 1 := by omega
    have i2 : (400 : Int) < (l.length : Int) := by omega
    clear h1 h2
    go_enter Tryz.func73, Tryz.ntmps73
    go_wp2_with fail
    go_ret
    exact ⟨ret_bool E.out.symm, Below.refl _ _⟩
  have i1 : ¬ (l.length : Int) < 1 := by omega
  have i2 : ¬ (400 : Int) < (l.length : Int) := by omega
  have i3 : decide ((400 : Int) < (l.length : Int)) = false := decide_eq_false i2
  have n4 : l.length ≤ 400 := by omega
  have p0 : 0 < l.length := by omega
  have i4 : (0 : Int) < (l.length : Int) := by omega
  obtain ⟨b, o, rfl, hcell⟩ : ∃ b o, p = some ⟨b, o, none⟩ ∧ ∀ i (h : i < l.length), ∃ va vk, NodeAt w b (o + i * 5) l[i] va vk := by
    rcases HP.out with q | q
    · rw [q] at p0; simp at p0
    · exact q
  have HC := hide hcell
  obtain ⟨va, vk, N0⟩ := hcell 0 p0
  rw [Nat.zero_mul, Nat.add_zero] at N0
  have a0 := N0.name
  have a1 := N0.text
  have a2 := N0.attrs
  have a3 := N0.parent
  have a4 := N0.kids
  have NW : Hid (∀ W, Below w.heap.size w W → NodeAt W b o l[0] va vk) := fun W hb => N0.below hb
  have HT := hide (fun W => isText_any l[0].name l[0].text va l[0].parent vk W)
  have e0 : nd l 0 = l[0] := nd_at p0
  clear hcell N0 HP h1 h2
  cases q1 : noName l[0].name with
  | true =>
    have E := hide (not_right (l := l) (fun r => r.head (by rw [e0]; unfold noName at q1; exact beq_iff_eq.1 q1)))
    rw [q1] at HT
    clear q1 e0
    go_enter Tryz.func73, Tryz.ntmps73
    go_wp2_with fail
    refine (HT.out _).mono ?_
    rintro e w1 ⟨rfl, b1⟩
    go_wp2_with fail
    go_ret
    exact ⟨ret_bool E.out.symm, b1⟩
  | false =>
    rw [q1] at HT
    have NH : Hid (¬ (nd l 0).name.size = 0) := by rw [e0]; intro t; unfold noName at q1; rw [t] at q1; cases q1
    clear q1
    by_cases q2 : l[0].parent = -1
    rotate_left
    · have E := hide (not_right (l := l) (fun r => q2 (by rw [← e0]; exact r.root)))
      have f1 : (l[0].parent != -1) = true := by rw [bne_iff_ne]; exact q2
      have f2 : (l[0].parent == -1) = false := by rw [beq_eq_false_iff_ne]; exact q2
      clear q2 e0
      go_enter Tryz.func73, Tryz.ntmps73
      go_wp2_with fail
      refine (HT.out _).mono ?_
      rintro e w1 ⟨rfl, b1⟩
      have d3 := (NW.out w1 b1).parent
      go_wp2_with fail
      go_ret
      exact ⟨ret_bool E.out.symm, b1⟩
    have f1 : (l[0].parent != -1) = false := by rw [q2]; rfl
    have f2 : (l[0].parent == -1) = true := by rw [q2]; rfl
    have RT : Hid ((nd l 0).parent = -1) := by rw [e0]; exact q2
    clear e0 q2
    go_enter Tryz.func73, Tryz.ntmps73
    go_wp2_with fail
    refine (HT.out _).mono ?_
    rintro e w1 ⟨rfl, b1⟩
    have d3 := (NW.out w1 b1).parent
    go_wp2_with fail
    have B1 := hide b1
    clear b1 d3 a0 a1 a2 a3 a4 NW HT f1 f2
    go_loopw [27] (fun iv wr => ∃ i : Nat, i ≤ l.length ∧ iv = .int .i64 i ∧ Hid (∀ j, j < i → aloneB (nd l j) = true) ∧ Hid (Below w.heap.size w wr)) (fun iv _ => l.length - (intOf iv).toNat)
    case atStart => exact ⟨0, Nat.zero_le _, rfl, fun j q => by omega, B1⟩
    case round =>
      rename World => wr
      obtain ⟨i, hi, rfl, AL, BW⟩ := hrel
      clear B1
      by_cases h : i < l.length
      · have j1 : (i : Int) < (l.length : Int) := by omega
        have j0 : (0 : Int) ≤ (i : Int) := by omega
        obtain ⟨va, vk, N0⟩ := HC.out i h
        have HF := hide (isFormed_any b (o + i * 5) l[i] va vk wr (N0.below BW.out) (HZ.out.nds l[i] (List.getElem_mem _)))
        have e0 : nd l i = l[i] := nd_at h
        clear N0
        cases q : aloneB l[i] with
        | false =>
          have E := hide (not_right (l := l) (fun r => by have := r.alone i h; rw [e0, q] at this; cases this))
          rw [q] at HF
          clear q e0
          go_wp2_with fail
          refine HF.out.mono ?_
          rintro e w2 ⟨rfl, b2⟩
          go_wp2_with fail
          go_ret
          exact ⟨ret_bool E.out.symm, chain BW.out b2⟩
        | true =>
          have E : Hid (∀ j, j < i + 1 → aloneB (nd l j) = true) := fun j hj => by
            rcases Nat.lt_or_ge j i with t | t
            · exact AL.out j t
            · obtain rfl : j = i := by omega
              rw [e0]; exact q
          rw [q] at HF
          clear q e0 AL
          go_wp2_with fail
          refine HF.out.mono ?_
          rintro e w2 ⟨rfl, b2⟩
          go_wp2_with fail
          go_roundw
          case rel => exact ⟨i + 1, by omega, by go_num, E, chain BW.out b2⟩
          case measure => simp [intOf]; omega
      · obtain rfl : i = l.length := by omega
        have HL := hide (areLinked_any _ l wr (HV.out.below BW.out) HZ.out n4)
        have HR := hide (fun (hl : Linked l) W (hb : Below w.heap.size w W) => areReached_any _ l W (HV.out.below hb) n4 hl)
        clear h
        go_wp2_with fail
        refine HL.out.mono ?_
        rintro e w2 ⟨⟨r, rfl, hr⟩, b2⟩
        have HR2 := hide hr
        clear hr
        cases r with
        | false =>
          have E := hide (not_right (l := l) (fun r => by have := HR2.out.2 (right_linked r); cases this))
          clear HL HR HR2
          go_wp2_with fail
          go_ret
          exact ⟨ret_bool E.out.symm, chain BW.out b2⟩
        | true =>
          have LK := HR2.out.1 rfl
          have HR' := hide (HR.out LK w2 (chain BW.out b2))
          by_cases t : (allL l).length = l.length
          · have E := hide (right_is.2 (right_of (l := l) ⟨p0, n4⟩ NH.out RT.out (fun i hi => AL.out i hi) LK t))
            rw [decide_eq_true t] at HR'
            clear HL HR HR2 t LK
            go_wp2_with fail
            refine HR'.out.mono ?_
            rintro e w3 ⟨rfl, b3⟩
            go_wp2_with fail
            go_ret
            exact ⟨ret_bool E.out.symm, chain (chain BW.out b2) b3⟩
          · have E := hide (not_right (l := l) (fun r => t (right_reached r)))
            rw [decide_eq_false t] at HR'
            clear HL HR HR2 t LK
            go_wp2_with fail
            refine HR'.out.mono ?_
            rintro e w3 ⟨rfl, b3⟩
            go_wp2_with fail
            go_ret
            exact ⟨ret_bool E.out.symm, chain (chain BW.out b2) b3⟩
end Go.Proofs.YtnojgejcmaajmaaGreatDoor

namespace Go.Proofs.YtnojgejcmaajmaaGreatDoor
open Go.RowKit
set_option maxHeartbeats 1000000 in
theorem isThere_any (v : Value) (l : List Nd) (id : Int) (w : World) (hv : NodesV w v l) (hz : DocSz l) :
    Calls Tryz.prog 221 #[v, .int .i64 id] w fun e w' => e = .returned (.bool (hasN l id)) ∧ Below w.heap.size w w' := by
  have HR := hide (right_any v l w hv hz)
  obtain ⟨p, c, rfl, hv⟩ := hv
  have hlen := hz.len
  clear hv hz
  unfold hasN
  by_cases h1 : 0 ≤ id
  · by_cases h2 : id < (l.length : Int)
    · rw [decide_eq_true ⟨h1, h2⟩, Bool.true_and]
      generalize rightB l = r at *
      go_enter Tryz.func221, Tryz.ntmps221
      go_wp2_with fail
      refine HR.out.mono ?_
      rintro e w1 ⟨rfl, b1⟩
      go_wp2_with fail
      go_ret
      exact ⟨rfl, b1⟩
    · rw [decide_eq_false (fun q => h2 q.2), Bool.false_and]
      have d : decide (id < (l.length : Int)) = false := decide_eq_false h2
      go_enter Tryz.func221, Tryz.ntmps221
      go_wp2_with fail
      go_ret
      exact ⟨rfl, Below.refl _ _⟩
  · rw [decide_eq_false (fun q => h1 q.1), Bool.false_and]
    go_enter Tryz.func221, Tryz.ntmps221
    go_wp2_with fail
    go_ret
    exact ⟨rfl, Below.refl _ _⟩
theorem has_is {l : List Nd} {id : Int} (h : hasN l id = true) : Right l ∧ inR l id := by
  unfold hasN at h
  rw [Bool.and_eq_true, decide_eq_true_eq] at h
  exact ⟨right_is.1 h.2, h.1⟩

end Go.Proofs.YtnojgejcmaajmaaGreatDoor
