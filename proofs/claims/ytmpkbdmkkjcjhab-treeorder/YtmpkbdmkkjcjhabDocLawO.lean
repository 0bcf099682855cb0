/- TreeOrder walked. Conditions: a document as it lies in the world; rows of at most 2^47 bytes. -/
import Derived.Test.YtmpkbdmkkjcjhabDocS9
import Derived.Test.YtmpkbdmkkjcjhabDocC1
import Derived.Laws.MakeOwn
namespace Go.Proofs.Ytmpkbdmkkjcjhab
open Go.RowKit

/-- A row of so many marks in a block of the call's own. -/
structure LstN (w : World) (g N : Nat) (L : Nat → Bool) : Prop where
  cell : ∀ x, x < N → w.cell? ⟨g, x, none⟩ = some (.bool (L x))
  free : ∀ x, w.frozen? ⟨g, x, none⟩ = false
theorem LstN.below {w w' : World} {g N : Nat} {L : Nat → Bool} (h : LstN w g N L) (hg : g < w.heap.size) (hb : Below w.heap.size w w') : LstN w' g N L :=
  ⟨fun x hx => cell_below (h.cell x hx) hb, fun x => (hb.frozen (p := ⟨g, x, none⟩) hg).trans (h.free x)⟩
theorem LstN.set {w : World} {g N : Nat} {L : Nat → Bool} (h : LstN w g N L) {y : Nat} : LstN (w.setCell ⟨g, y, none⟩ (.bool true)) g N (fun x => if x = y then true else L x) := by
  refine ⟨fun x hx => ?_, fun x => ?_⟩
  · by_cases e : x = y
    · subst e
      rw [if_pos rfl]
      exact World.cell?_setCell_same _ _ _ (by rw [h.cell x hx])
    · rw [if_neg e, World.cell?_setCell_other _ _ _ _ (fun q => e (by cases q; rfl))]
      exact h.cell x hx
  · have := h.free x
    rw [← this]
    exact World.frozen?_setCell ..
theorem infoBo : (Try.prog.info? 4).map (fun i => (i.zero, i.size, i.bytes)) = some (some (.bool false), 1, 1) := by kernel_rfl
theorem make_marks (n : Nat) (hn : n ≤ 400) (w : World) : (Instr.makeSlice 28 (.int .i64 (n : Int)) (.int .i64 (n : Int))).run Try.prog w = .ok (.slice (some ⟨w.heap.size, 0, none⟩) n n) (w.alloc (.cells (Array.replicate n (Value.bool false)) 4)) := by
  obtain ⟨i, hi, hz0, hz1, hz2⟩ := info_parts infoBo
  have := run_make (P := Try.prog) w 28 4 i (.bool false) Try.underlying28 hi hz0 .i64 .i64 (n : Int) (n : Int) (by omega) (by omega) (by rw [hz2]; omega) (by omega)
  rw [this, hz1, Int.toNat_natCast, Nat.mul_one]
  have e : madeCells (Value.bool false).cells n = Array.replicate n (Value.bool false) := by
    apply Array.ext'
    rw [Array.toList_replicate]
    exact toList_madeCells_one (.bool false) n
  rw [e]
theorem marks_new (w : World) (n : Nat) : LstN (w.alloc (.cells (Array.replicate n (Value.bool false)) 4)) w.heap.size n (fun _ => false) := by
  refine ⟨fun x hx => ?_, fun x => ?_⟩
  · rw [cell_of_row _ _ _ _ _ _ (heap_alloc_new w _)]
    simp [hx]
  · simp only [World.frozen?]
    rw [heap_alloc_new]
    simp
/-- All that those without a parent, up to a number, lead to. -/
def upTo (l : List Nd) (i : Nat) : List Int := (rootsTo l i).flatMap (downF l l.length)
theorem upTo_root {l : List Nd} {i : Nat} (h : (nd l i).parent = -1) : upTo l (i + 1) = upTo l i ++ downF l l.length (i : Int) := by
  unfold upTo
  rw [rootsTo_succ, if_pos h, List.flatMap_append, List.flatMap_singleton]
theorem upTo_not {l : List Nd} {i : Nat} (h : ¬ (nd l i).parent = -1) : upTo l (i + 1) = upTo l i := by
  unfold upTo
  rw [rootsTo_succ, if_neg h, List.append_nil]
theorem upTo_nodup {l : List Nd} (hR : Right l) {i : Nat} (hi : i ≤ l.length) : (upTo l i).Nodup := by
  have h := all_nodup (right_linked hR)
  obtain ⟨k, hk⟩ : ∃ k, l.length = i + k := ⟨l.length - i, by omega⟩
  unfold allL rootsL at h
  rw [show List.range l.length = List.range (i + k) by rw [hk], List.range_add, List.filter_append, List.map_append, List.flatMap_append, List.nodup_append] at h
  exact h.1
theorem down_first {l : List Nd} (hR : Right l) {id : Int} (hi : inR l id) {X Y : List Int} {k : Int} (h : downF l l.length id = X ++ k :: Y) : k = id ∨ parI l k ∈ X := by
  have := (order_inv hR hi.1 hi.2).first X k Y
  rw [order_down hR hi] at this
  exact this h
set_option maxHeartbeats 8000000 in
set_option maxRecDepth 100000 in
theorem treeOrder_walk (v : Value) (l : List Nd) (w : World) (hv : NodesV w v l) (hz : DocSz l) :
    Calls Try.prog 4 #[v] w fun e w' => e = .returned (.bool true) ∧ Below w.heap.size w w' := by
  have HW := hide wakes_any
  have HC := hide (fun W (hb : Below w.heap.size w W) => refCopied_any v l W (hv.below hb) hz)
  have HR := hide (fun W (hb : Below w.heap.size w W) => refDocRight_any v l W (hv.below hb) hz)
  have HPO := hide (fun v' (i : Nat) W (hn : NodesV W v' l) => order_any v' l (i : Int) W hn hz)
  have HV := hide hv
  obtain ⟨p, c, rfl, hv⟩ := hv
  have HP := hide hv
  clear hv hz
  cases q : rightB l with
  | false =>
    rw [q] at HR
    clear q
    go_enter Try.func4, Try.ntmps4
    go_wp2_with fail
    refine (HW.out _).mono ?_
    rintro e w1 ⟨rfl, b1⟩
    go_wp2_with fail
    refine (HR.out _ b1).mono ?_
    rintro e w2 ⟨rfl, b2⟩
    go_wp2_with fail
    go_ret
    exact ⟨rfl, chain b1 b2⟩
  | true =>
    have hR := right_is.1 q
    rw [q] at HR
    have HRt := hide hR
    have hlen := hR.len.2
    have h0 : 0 < l.length := by have := hR.len.1; omega
    obtain ⟨b, o, rfl, hcell⟩ : ∃ b o, p = some ⟨b, o, none⟩ ∧ ∀ i (h : i < l.length), ∃ va vk, NodeAt w b (o + i * 5) l[i] va vk := by
      rcases HP.out with t | t
      · rw [t] at h0; simp at h0
      · exact t
    have HCl := hide hcell
    have RCH := hide (right_reached hR)
    have MK := hide (fun w => make_marks l.length hlen w)
    have mk := fun w => MK.out w
    clear q hR hcell HP
    go_enter Try.func4, Try.ntmps4
    go_wp2_with fail
    refine (HW.out _).mono ?_
    rintro e w1 ⟨rfl, b1⟩
    go_wp2_with fail
    refine (HR.out _ b1).mono ?_
    rintro e w2 ⟨rfl, b2⟩
    have B2 := hide (chain b1 b2)
    clear b1 b2 HW HR
    go_wp2_with fail
    generalize hw3 : w2.alloc (.cells (Array.replicate l.length (Value.bool false)) 4) = w3
    have L3 : Hid (LstN w3 w2.heap.size l.length (fun _ => false)) := by rw [← hw3]; exact marks_new w2 _
    have B3 : Hid (Below w.heap.size w w3) := by rw [← hw3]; exact chain B2.out ((Below.refl _ w2).alloc (Nat.le_refl _) _)
    have S3 : Hid (w2.heap.size < w3.heap.size) := by rw [← hw3]; show _ < _; simp
    have GW : Hid (w.heap.size ≤ w2.heap.size) := B2.out.size
    clear hw3 mk MK B2
    obtain ⟨g, hg⟩ : ∃ g, Hid (w2.heap.size = g) := ⟨_, show w2.heap.size = _ from rfl⟩
    rw [hg.out] at L3 S3 GW ⊢
    clear hg
    go_loopw [4, 18] (fun nv iv wr => ∃ (i : Nat) (L : Nat → Bool), i ≤ l.length ∧ iv = .int .i64 i ∧ nv = .int .i64 ((upTo l i).length : Int) ∧ Hid (LstN wr g l.length L) ∧ Hid (∀ x : Nat, L x = true ↔ (x : Int) ∈ upTo l i) ∧ Hid (Below w.heap.size w wr) ∧ Hid (g < wr.heap.size)) (fun _ iv _ => l.length - (intOf iv).toNat)
    case atStart => exact ⟨0, _, Nat.zero_le _, rfl, rfl, L3, (fun x => ⟨(fun t => by cases t), (fun t => by simp [upTo, rootsTo] at t)⟩), B3, S3⟩
    case round =>
      rename World => wr
      obtain ⟨i, L, hi, rfl, rfl, HL, HS, BW, SW⟩ := hrel
      clear L3 B3 S3
      have UL : Hid (∀ i, i ≤ l.length → (upTo l i).length ≤ 400) := fun i hi => by
        have := nodup_len l.length (upTo l i) (upTo_nodup HRt.out hi) (fun x hx => by
          obtain ⟨r, h1, h2⟩ := List.mem_flatMap.1 hx
          have hr : r ∈ rootsL l := by
            unfold rootsTo at h1
            unfold rootsL
            rw [List.mem_map] at h1 ⊢
            obtain ⟨t, h3, h4⟩ := h1
            rw [List.mem_filter, List.mem_range] at h3
            exact ⟨t, List.mem_filter.2 ⟨List.mem_range.2 (by omega), h3.2⟩, h4⟩
          exact down_range (root_sub (right_linked HRt.out) hr) h2)
        omega
      by_cases h : i < l.length
      · have i1 : (i : Int) < (l.length : Int) := by omega
        have i0 : (0 : Int) ≤ (i : Int) := by omega
        obtain ⟨va, vk, N0⟩ := HCl.out i h
        have a3 := (N0.below BW.out).parent
        have pb := HRt.out.par i h
        rw [nd_at h] at pb
        clear N0
        by_cases q : l[i].parent = -1
        rotate_left
        · have f1 : (0 : Int) ≤ l[i].parent := by omega
          have e1 := upTo_not (l := l) (i := i) (by rw [nd_at h]; exact q)
          have HS' := hide HS.out
          rw [← e1] at HS'
          have EL := hide (congrArg List.length e1)
          clear q e1 pb HS UL
          generalize l[i].parent = pm at *
          go_wp2_with fail
          go_roundw
          case rel => exact ⟨i + 1, L, by omega, by go_num, by rw [EL.out], HL, HS', BW, SW⟩
          case measure => simp [intOf]; omega
        · have f1 : ¬ (0 : Int) ≤ l[i].parent := by omega
          have e1 := upTo_root (l := l) (i := i) (by rw [nd_at h]; exact q)
          have ri : inR l (i : Int) := ⟨i0, i1⟩
          have hasI : hasN l (i : Int) = true := by unfold hasN; rw [decide_eq_true ⟨i0, i1⟩, right_is.2 HRt.out]; rfl
          have eo : ordL l (i : Int) = downF l l.length (i : Int) := by unfold ordL; rw [hasI]; rfl
          have ND := upTo_nodup HRt.out (i := i + 1) (by omega)
          rw [e1] at ND
          have FST := hide (fun X k Y h => down_first HRt.out ri (X := X) (k := k) (Y := Y) h)
          have DPos : Hid (0 < (downF l l.length (i : Int)).length) := List.length_pos_of_mem (down_self (right_sub HRt.out ri))
          have PI : Hid (l[i].parent = -1) := q
          have RG : Hid (∀ k ∈ downF l l.length (i : Int), inR l k) := fun k hk => down_range (right_sub HRt.out ri) hk
          have HND := hide ND
          have E1 := hide e1
          have EO := hide eo
          have ul := UL.out (i + 1) (by omega)
          rw [e1, List.length_append] at ul
          have HCp := hide (HC.out wr BW.out)
          have DP := hide (fun k hk => HRt.out.par k hk)
          clear q e1 ri hasI eo ND pb UL
          generalize downF l l.length (i : Int) = D at *
          go_wp2_with fail
          refine HCp.out.mono ?_
          rintro e w4 ⟨v4, LL, rfl, o4, hl4, b4⟩
          have N4 : Hid (NodesV w4 v4 l) := by have := o4.nodes; rw [hl4] at this; exact this
          have B4 := hide b4
          clear o4 hl4 b4
          go_wp2_with fail
          refine (HPO.out _ i _ N4.out).mono ?_
          rintro e w5 ⟨v5, rfl, k5, bb5⟩
          rw [EO.out] at k5
          have b45 := chain B4.out bb5
          clear bb5
          have B5 := hide (chain BW.out b45)
          have HL5 := hide (HL.out.below SW.out b45)
          have SW5 : Hid (g < w5.heap.size) := Nat.lt_of_lt_of_le SW.out b45.size
          obtain ⟨b5, c5, ev5, eb5, g5, _⟩ := owns_at k5 DPos.out
          have CC : Hid (∀ t (ht : t < D.length), w5.cell? ⟨b5, t, none⟩ = some (.int .i64 D[t])) := fun t ht => owns_cell k5 eb5 (cellsI_at ht)
          have NG : Hid (b5 ≠ g) := by
            have := SW.out
            have := B4.out.size
            intro e
            omega
          clear k5 eb5 g5 b45 N4 B4 HL SW BW a3
          subst ev5
          go_wp2_with fail
          go_loopw [4, 32] (fun nv jv wq => ∃ (j : Nat) (L2 : Nat → Bool), j ≤ D.length ∧ jv = .int .i64 j ∧ nv = .int .i64 (((upTo l i).length : Int) + (j : Int)) ∧ Hid (LstN wq g l.length L2) ∧ Hid (∀ x : Nat, L2 x = true ↔ (x : Int) ∈ upTo l i ++ D.take j) ∧ Hid (Below w.heap.size w wq) ∧ Hid (Chg [g] w5 wq)) (fun _ jv _ => D.length - (intOf jv).toNat)
          case atStart => exact ⟨0, L, Nat.zero_le _, rfl, by simp, HL5, (fun x => by rw [List.take_zero, List.append_nil]; exact HS.out x), B5, Chg.refl _ _⟩
          case round =>
            rename World => wq
            obtain ⟨j, L2, hj, rfl, rfl, HL2, HS2, BW2, CH2⟩ := hrel
            clear HL5 HS B5
            by_cases hjj : j < D.length
            · have j1 : (j : Int) < (D.length : Int) := by omega
              have j0 : (0 : Int) ≤ (j : Int) := by omega
              have a5 := CH2.out.cell (CC.out j hjj) (by simpa using NG.out)
              have rk := RG.out D[j] (List.getElem_mem _)
              have et : D.take (j + 1) = D.take j ++ [D[j]] := List.take_succ_eq_append_getElem hjj
              have eD : D = D.take j ++ D[j] :: D.drop (j + 1) := by rw [← List.drop_eq_getElem_cons hjj, List.take_append_drop]
              have fs := FST.out _ _ _ eD
              have nin : ¬ D[j] ∈ upTo l i ++ D.take j := by
                have hn := HND.out
                rw [eD, ← List.append_assoc, List.nodup_append] at hn
                intro t
                exact hn.2.2 _ t _ (List.mem_cons_self ..) rfl
              obtain ⟨m, em⟩ : ∃ m : Nat, D[j] = (m : Int) := ⟨D[j].toNat, by have := rk.1; omega⟩
              have hm : m < l.length := by have := rk.2; omega
              rw [em] at a5 fs nin et
              have ET := hide et
              have L2m : L2 m = false := by
                cases t : L2 m with
                | false => rfl
                | true => exact absurd ((HS2.out m).1 t) nin
              obtain ⟨vm, km, NM⟩ := HCl.out m hm
              have a6 := (NM.below BW2.out).parent
              have a7 := HL2.out.cell m hm
              have a8 := HL2.out.free m
              rw [L2m] at a7
              have d1 : decide ((m : Int) < 0) = false := decide_eq_false (by omega)
              have d2 : decide ((l.length : Int) ≤ (m : Int)) = false := decide_eq_false (by omega)
              have m0 : (0 : Int) ≤ (m : Int) := by omega
              have m1 : (m : Int) < (l.length : Int) := by omega
              have REL : Hid (∀ x : Nat, (if x = m then true else L2 x) = true ↔ (x : Int) ∈ upTo l i ++ D.take (j + 1)) := fun x => by
                rw [ET.out, ← List.append_assoc, List.mem_append, List.mem_singleton]
                by_cases e : x = m
                · subst e; rw [if_pos rfl]; exact ⟨fun _ => .inr rfl, fun _ => rfl⟩
                · rw [if_neg e, HS2.out x]
                  constructor
                  · exact fun t => .inl t
                  · rintro (t | t)
                    · exact t
                    · omega
              have PM := parI_nat hm
              rw [PM] at fs
              have GE := GW.out
              clear rk et eD nin em NM L2m PM
              by_cases q3 : (0 : Int) ≤ l[m].parent
              · have PP := DP.out m hm
                rw [nd_at hm] at PP
                obtain ⟨pp, ep⟩ : ∃ pp : Nat, l[m].parent = (pp : Int) := ⟨l[m].parent.toNat, by omega⟩
                have hpp : pp < l.length := by omega
                have L2p : L2 pp = true := by
                  rw [HS2.out pp, ← ep]
                  rcases fs with t | t
                  · have : m = i := by omega
                    subst this
                    rw [PI.out] at q3; omega
                  · exact List.mem_append_right _ t
                have a9 := HL2.out.cell pp hpp
                rw [L2p] at a9
                rw [ep] at a6
                have p0 : (0 : Int) ≤ (pp : Int) := by omega
                have p1 : (pp : Int) < (l.length : Int) := by omega
                clear fs PP ep q3 L2p
                go_wp2_with fail
                go_roundw
                case rel => exact ⟨j + 1, _, by omega, by go_num, by go_num, HL2.out.set, REL, BW2.out.setCell GE _, CH2.out.trans (Chg.setB _ _ _ _)⟩
                case measure => simp [intOf]; omega
              · have f3 : decide ((0 : Int) ≤ l[m].parent) = false := decide_eq_false q3
                clear fs
                generalize l[m].parent = pm at *
                go_wp2_with fail
                go_roundw
                case rel => exact ⟨j + 1, _, by omega, by go_num, by go_num, HL2.out.set, REL, BW2.out.setCell GE _, CH2.out.trans (Chg.setB _ _ _ _)⟩
                case measure => simp [intOf]; omega
            · obtain rfl : j = D.length := by omega
              have HS' := hide HS2.out
              rw [List.take_length, ← E1.out] at HS'
              have EL : Hid (((upTo l i).length : Int) + (D.length : Int) = ((upTo l (i + 1)).length : Int)) := by show _ = _; rw [E1.out, List.length_append]; omega
              have SG : Hid (g < wq.heap.size) := Nat.lt_of_lt_of_le SW5.out CH2.out.size
              clear hjj
              go_wp2_with fail
              go_roundw
              case rel => exact ⟨i + 1, L2, by omega, by go_num, by rw [EL.out], HL2, HS', BW2, SG⟩
              case measure => simp [intOf]; omega
      · obtain rfl : i = l.length := by omega
        have E : Hid ((upTo l l.length).length = l.length) := RCH.out
        clear h UL
        go_wp2_with fail
        go_ret
        exact ⟨by rw [E.out]; simp, BW.out⟩

end Go.Proofs.Ytmpkbdmkkjcjhab
