/- The program's downwards of layer 10. The program's areLinked of layer 10. -/
import Derived.Test.YtdbabciafifnaaaGreatDoorJvb3
import Derived.Test.YtdbabciafifnaaaGreatDoorJvb29

namespace Go.Proofs.YtdbabciafifnaaaGreatDoor
open Go.RowKit
theorem kidsI_at {l : List Nd} {m : Nat} (h : m < l.length) : kidsI l (m : Int) = l[m].kids := by unfold kidsI; rw [Int.toNat_natCast, nd_at h]
set_option maxHeartbeats 4000000 in
set_option maxRecDepth 100000 in
theorem down_any (w0 : World) (v : Value) (l : List Nd) (hv : NodesV w0 v l) : ∀ (f : Nat) (k : Int) (xs : List Int) (lv : Value) (w : World), Below w0.heap.size w0 w → KidsO w0.heap.size w lv xs → Sub l f k → xs.length + (downF l f k).length ≤ 17592186044416 →
    Calls Tryz.prog 50 #[lv, v, .int .i64 k] w fun e w' => ∃ v', e = .returned v' ∧ KidsO w0.heap.size w' v' (xs ++ downF l f k) ∧ Below w0.heap.size w0 w' := by
  intro f
  induction f with
  | zero => intro k xs lv w _ _ h _; exact h.elim
  | succ f ih =>
    intro k xs lv w hb hown hs hsz
    obtain ⟨m, rfl⟩ : ∃ m : Nat, k = (m : Int) := ⟨k.toNat, by have := hs.1.1; omega⟩
    have hm : m < l.length := by have := hs.1.2; omega
    have IH := hide ih
    have KD := hide hs.2
    rw [kidsI_at hm] at KD
    have e1 : downF l (f + 1) (m : Int) = (m : Int) :: l[m].kids.flatMap (downF l f) := by show _ :: (kidsI l (m : Int)).flatMap _ = _; rw [kidsI_at hm]
    rw [e1] at hsz ⊢
    rw [List.length_cons] at hsz
    clear ih hs e1
    obtain ⟨p, c, rfl, hv⟩ := hv
    rcases hv with hv | ⟨b, o, rfl, hv⟩
    · rw [hv] at hm; simp at hm
    obtain ⟨va, vk, N0⟩ := hv m hm
    have NW : Hid (∀ W, Below w0.heap.size w0 W → NodeAt W b (o + m * 5) l[m] va vk) := fun W hW => N0.below hW
    obtain ⟨pk, ck, rfl, hk⟩ := N0.ks
    have HK := hide hk
    have i0 : (0 : Int) ≤ (m : Int) := by omega
    have i1 : (m : Int) < (l.length : Int) := by omega
    obtain ⟨iI, hI0, hI1, hI2, hI3⟩ := info_parts infoI
    generalize hB : w0.heap.size = B at *
    have Bw : B ≤ w.heap.size := by have := hb.size; omega
    have OW := hide (World.ownsRow.alloc hown (.cells #[.int .i64 (m : Int)] 3))
    have RW := hide ((NB.new w [.int .i64 (m : Int)] 3).raw 1 1 rfl 1)
    have SZ := hide hsz
    have HB := hide hb
    have h1 : xs.length + 1 ≤ 17592186044416 := by omega
    have hBa : Hid (B ≤ (w.alloc (.cells #[.int .i64 (m : Int)] 3)).heap.size) := by show _ ≤ _; simp; omega
    have ksz : l[m].kids.length ≤ 17592186044416 := by
      have F : ∀ L : List Int, (∀ x ∈ L, Sub l f x) → L.length ≤ (L.flatMap (downF l f)).length := by
        intro L
        induction L with
        | nil => intro _; exact Nat.zero_le _
        | cons a t iht =>
          intro hL
          rw [List.flatMap_cons, List.length_append, List.length_cons]
          have := iht (fun x hx => hL x (List.mem_cons_of_mem _ hx))
          have := List.length_pos_of_mem (down_self (hL a (List.mem_cons_self ..)))
          omega
      have := F l[m].kids KD.out
      omega
    clear hv N0 hk hown hb hsz
    go_enter Tryz.func50, Tryz.ntmps50
    go_wp2_with (at_builtin; refine wpList_append_raw rfl _ _ _ rfl B 3 iI _ 1 8 Tryz.underlying36 hI0 hI1 hI2 hI3 rfl (by omega) _ xs.length (cellsI xs) rfl OW.out _ 1 _ rfl RW.out (by simp [Value.oneCell']) (by unfold maxLen; omega) (by omega) hBa.out ?_; intro q1 c1 w1 own1 gr1 at1; have B1 : Hid (Below B w0 w1) := HB.out.trans (((Chg.alloc w _).nil.trans (Chg.of_grown gr1)).below Bw (fun k hk => (OW.out.lt k (opt_mem.1 hk)).1)); have a4 := (NW.out w1 B1.out).kids)
    have K1 : Hid (KidsO B w1 (.slice q1 (xs.length + 1) c1) (xs ++ [(m : Int)])) := by
      have := own1
      show w1.ownsRow B _ 1 _ (xs ++ [(m : Int)]).length (cellsI (xs ++ [(m : Int)]))
      rw [List.length_append, cellsI_app]
      exact own1
    clear own1 gr1 at1 OW RW hBa HB
    go_loopw [0, 19] (fun sv iv wr => ∃ j : Nat, j ≤ l[m].kids.length ∧ iv = .int .i64 j ∧ Hid (KidsO B wr sv (xs ++ (m : Int) :: (l[m].kids.take j).flatMap (downF l f))) ∧ Hid (Below B w0 wr)) (fun _ iv _ => l[m].kids.length - (intOf iv).toNat)
    case atStart => exact ⟨0, Nat.zero_le _, rfl, by show KidsO _ _ _ _; rw [List.take_zero]; exact K1.out, B1.out⟩
    case round =>
      rename World => wr
      obtain ⟨j, hj, rfl, KO, BW⟩ := hrel
      clear a4 K1 B1
      by_cases h : j < l[m].kids.length
      · have j1 : (j : Int) < (l[m].kids.length : Int) := by omega
        have j0 : (0 : Int) ≤ (j : Int) := by omega
        obtain ⟨bk, ok, rfl, hk⟩ : ∃ bk ok, pk = some ⟨bk, ok, none⟩ ∧ ∀ i (h : i < l[m].kids.length), w0.cell? ⟨bk, ok + i, none⟩ = some (.int .i64 l[m].kids[i]) := by
          rcases HK.out with q | q
          · rw [q] at h; simp at h
          · exact q
        have a5 := cell_below (hk j h) (by rw [hB]; exact BW.out)
        have SK := KD.out l[m].kids[j] (List.getElem_mem _)
        have e2 : l[m].kids.take (j + 1) = l[m].kids.take j ++ [l[m].kids[j]] := List.take_succ_eq_append_getElem h
        have e3 : (l[m].kids.take (j + 1)).flatMap (downF l f) = (l[m].kids.take j).flatMap (downF l f) ++ downF l f l[m].kids[j] := by rw [e2, List.flatMap_append, List.flatMap_singleton]
        have L1 : ((l[m].kids.take (j + 1)).flatMap (downF l f)).length ≤ (l[m].kids.flatMap (downF l f)).length := by
          have : l[m].kids = l[m].kids.take (j + 1) ++ l[m].kids.drop (j + 1) := (List.take_append_drop _ _).symm
          have e4 := congrArg (fun L => (L.flatMap (downF l f)).length) this
          simp only [List.flatMap_append, List.length_append] at e4
          omega
        have HC := IH.out l[m].kids[j] _ _ wr BW.out KO.out SK (by
          rw [e3, List.length_append] at L1
          rw [List.length_append, List.length_cons]
          have := SZ.out
          omega)
        rw [List.append_assoc, List.cons_append, ← e3] at HC
        have HC := hide HC
        clear hk SK e2 e3 L1 KO
        generalize l[m].kids[j] = kc at *
        go_wp2_with fail
        refine HC.out.mono ?_
        rintro e w2 ⟨v2, rfl, k2, b2⟩
        go_wp2_with fail
        go_roundw
        case rel => exact ⟨j + 1, by omega, by go_num, k2, b2⟩
        case measure => simp [intOf]; omega
      · obtain rfl : j = l[m].kids.length := by omega
        go_wp2_with fail
        go_ret
        refine ⟨_, rfl, ?_, BW.out⟩
        have := KO.out
        rw [List.take_length] at this
        exact this
end Go.Proofs.YtdbabciafifnaaaGreatDoor

namespace Go.Proofs.YtdbabciafifnaaaGreatDoor
open Go.RowKit
/-- A bool is answered, of which P holds. -/
def AnsB (P : Bool → Prop) (e : Ending) : Prop := ∃ r : Bool, e = .returned (.bool r) ∧ P r
/-- A row of marks in a block of the call's own. -/
structure Lst (w : World) (n : Nat) (L : Nat → Bool) : Prop where
  cell : ∀ x, x < 400 → w.cell? ⟨n, x, none⟩ = some (.bool (L x))
  free : ∀ x, w.frozen? ⟨n, x, none⟩ = false
theorem marks_zero : Tryz.zeroCells66 = Array.replicate 400 (.bool false) := by kernel_rfl
theorem Lst.new (w : World) : Lst (w.alloc (.cells Tryz.zeroCells66 66)) w.heap.size (fun _ => false) := by
  refine ⟨fun x hx => ?_, fun x => ?_⟩
  · rw [cell_of_row _ _ _ _ _ _ (heap_alloc_new w _), marks_zero]
    simp [hx]
  · simp only [World.frozen?]
    rw [heap_alloc_new]
    simp
theorem Lst.set {w : World} {n : Nat} {L : Nat → Bool} (h : Lst w n L) {y : Nat} (hy : y < 400) : Lst (w.setCell ⟨n, y, none⟩ (.bool true)) n (fun x => if x = y then true else L x) := by
  refine ⟨fun x hx => ?_, fun x => ?_⟩
  · by_cases e : x = y
    · subst e
      rw [if_pos rfl]
      exact World.cell?_setCell_same _ _ _ (by rw [h.cell x hx])
    · rw [if_neg e, World.cell?_setCell_other _ _ _ _ (fun q => e (by cases q; rfl))]
      exact h.cell x hx
  · have := h.free x
    rw [← this]
    exact World.frozen?_setCell ..
theorem parI_nat {l : List Nd} {m : Nat} (h : m < l.length) : parI l (m : Int) = l[m].parent := by unfold parI; rw [Int.toNat_natCast, nd_at h]
/-- So far all is linked. -/
structure LinkTo (l : List Nd) (i : Nat) : Prop where
  kid : ∀ i', i' < i → ∀ c ∈ (nd l i').kids, inR l c ∧ parI l c = (i' : Int)
  once : ∀ i', i' < i → (nd l i').kids.Nodup
theorem link_more {l : List Nd} {i : Nat} (h : LinkTo l i) (h1 : ∀ c ∈ (nd l i).kids, inR l c ∧ parI l c = (i : Int)) (h2 : (nd l i).kids.Nodup) : LinkTo l (i + 1) := by
  refine ⟨fun i' hi => ?_, fun i' hi => ?_⟩
  · rcases Nat.lt_or_ge i' i with q | q
    · exact h.kid i' q
    · obtain rfl : i' = i := by omega
      exact h1
  · rcases Nat.lt_or_ge i' i with q | q
    · exact h.once i' q
    · obtain rfl : i' = i := by omega
      exact h2
def seenB (l : List Nd) (i : Nat) (x : Int) : Prop := ∃ i', i' < i ∧ x ∈ (nd l i').kids
theorem seen_more {l : List Nd} {i : Nat} {x : Int} : seenB l (i + 1) x ↔ seenB l i x ∨ x ∈ (nd l i).kids := by
  constructor
  · rintro ⟨i', h1, h2⟩
    rcases Nat.lt_or_ge i' i with q | q
    · exact .inl ⟨i', q, h2⟩
    · obtain rfl : i' = i := by omega
      exact .inr h2
  · rintro (⟨i', h1, h2⟩ | h)
    · exact ⟨i', by omega, h2⟩
    · exact ⟨i, by omega, h⟩
set_option maxHeartbeats 4000000 in
set_option maxRecDepth 100000 in
theorem areLinked_any (v : Value) (l : List Nd) (w : World) (hv : NodesV w v l) (hz : DocSz l) (h4 : l.length ≤ 400) :
    Calls Tryz.prog 26 #[v] w fun e w' => AnsB (fun r => r = true ↔ Linked l) e ∧ Below w.heap.size w w' := by
  obtain ⟨p, c, rfl, hv⟩ := hv
  have HV := hide hv
  have HZ := hide hz
  have zm := Tryz.zeroValue66
  clear hv hz
  go_enter Tryz.func26, Tryz.ntmps26
  go_wp2_with fail
  generalize hw1 : w.alloc (.cells Tryz.zeroCells66 66) = w1
  have L1 : Hid (Lst w1 w.heap.size (fun _ => false)) := by rw [← hw1]; exact Lst.new w
  have B1 : Hid (Below w.heap.size w w1) := by rw [← hw1]; exact (Below.refl _ w).alloc (Nat.le_refl _) _
  have S1 : Hid (w.heap.size < w1.heap.size) := by rw [← hw1]; show _ < _; simp
  clear hw1 zm
  go_loopw [9] (fun iv wr => ∃ (i : Nat) (L : Nat → Bool), i ≤ l.length ∧ iv = .int .i64 i ∧ Hid (Lst wr w.heap.size L) ∧ Hid (∀ x : Nat, L x = true ↔ seenB l i (x : Int)) ∧ Hid (LinkTo l i) ∧ Hid (Below w.heap.size w wr)) (fun iv _ => l.length - (intOf iv).toNat)
  case atStart => exact ⟨0, _, Nat.zero_le _, rfl, L1, (fun x => ⟨(fun q => by cases q), fun ⟨i', q, _⟩ => by omega⟩), ⟨fun i' q => by omega, fun i' q => by omega⟩, B1⟩
  case round =>
    rename World => wr
    obtain ⟨i, L, hi, rfl, HL, HS, LT, BW⟩ := hrel
    clear L1 B1 S1
    by_cases h : i < l.length
    · have i1 : (i : Int) < (l.length : Int) := by omega
      have i0 : (0 : Int) ≤ (i : Int) := by omega
      obtain ⟨b, o, rfl, hcell⟩ : ∃ b o, p = some ⟨b, o, none⟩ ∧ ∀ i (h : i < l.length), ∃ va vk, NodeAt w b (o + i * 5) l[i] va vk := by
        rcases HV.out with q | q
        · rw [q] at h; simp at h
        · exact q
      have HC := hide hcell
      obtain ⟨va, vk, N0⟩ := hcell i h
      have a4 := (N0.below BW.out).kids
      obtain ⟨pk, ck, rfl, hk⟩ := N0.ks
      have HK := hide hk
      have kz := (HZ.out.nds l[i] (List.getElem_mem _)).kids
      have KN : Hid ((nd l i).kids = l[i].kids) := by show _ = _; rw [nd_at h]
      clear hk N0 hcell
      go_wp2_with fail
      go_loopw [18] (fun jv wq => ∃ (j : Nat) (L : Nat → Bool), j ≤ l[i].kids.length ∧ jv = .int .i64 j ∧ Hid (Lst wq w.heap.size L) ∧ Hid (∀ x : Nat, L x = true ↔ seenB l i (x : Int) ∨ (x : Int) ∈ l[i].kids.take j) ∧ Hid (∀ c ∈ l[i].kids.take j, inR l c ∧ parI l c = (i : Int)) ∧ Hid ((l[i].kids.take j).Nodup) ∧ Hid (Below w.heap.size w wq)) (fun jv _ => l[i].kids.length - (intOf jv).toNat)
      case atStart => exact ⟨0, L, Nat.zero_le _, rfl, HL, (fun x => by rw [List.take_zero]; simpa using HS.out x), (fun c q => by rw [List.take_zero] at q; cases q), by show List.Nodup _; rw [List.take_zero]; exact List.nodup_nil, BW⟩
      case round =>
        rename World => wq
        obtain ⟨j, L2, hj, rfl, HL2, HS2, HK2, HD2, BW2⟩ := hrel
        clear HL HS BW a4
        by_cases hjj : j < l[i].kids.length
        · have j1 : (j : Int) < (l[i].kids.length : Int) := by omega
          have j0 : (0 : Int) ≤ (j : Int) := by omega
          obtain ⟨bk, ok, rfl, hk⟩ : ∃ bk ok, pk = some ⟨bk, ok, none⟩ ∧ ∀ t (h : t < l[i].kids.length), w.cell? ⟨bk, ok + t, none⟩ = some (.int .i64 l[i].kids[t]) := by
            rcases HK.out with q | q
            · rw [q] at hjj; simp at hjj
            · exact q
          have a5 := cell_below (hk j hjj) BW2.out
          have NO : Hid (¬ (inR l l[i].kids[j] ∧ parI l l[i].kids[j] = (i : Int)) → (false = true ↔ Linked l)) := fun q => ⟨(fun r => by cases r), fun r => absurd (r.kid i h l[i].kids[j] (by rw [KN.out]; exact List.getElem_mem _)) q⟩
          have e2 : l[i].kids.take (j + 1) = l[i].kids.take j ++ [l[i].kids[j]] := List.take_succ_eq_append_getElem hjj
          have TW : Hid (l[i].kids[j] ∈ l[i].kids.take j → (false = true ↔ Linked l)) := fun q => ⟨(fun r => by cases r), fun r => by
            have := r.once i h
            rw [KN.out, ← List.take_append_drop (j + 1) l[i].kids, e2, List.append_assoc, List.nodup_append] at this
            exact absurd rfl (this.2.2 _ q _ (List.mem_append_left _ (List.mem_singleton.2 rfl)))⟩
          have E2 := hide e2
          clear hk e2
          generalize l[i].kids[j] = kc at *
          by_cases q1 : kc < 0
          · have E := hide (NO.out (fun r => by have := r.1.1; omega))
            clear NO TW E2
            go_wp2_with fail
            go_ret
            exact ⟨⟨false, rfl, E.out⟩, BW2.out⟩
          · by_cases q2 : (l.length : Int) ≤ kc
            · have E := hide (NO.out (fun r => by have := r.1.2; omega))
              have d1 : decide (kc < 0) = false := decide_eq_false q1
              clear NO TW E2
              go_wp2_with fail
              go_ret
              exact ⟨⟨false, rfl, E.out⟩, BW2.out⟩
            · obtain ⟨m, rfl⟩ : ∃ m : Nat, kc = (m : Int) := ⟨kc.toNat, by omega⟩
              have hm : m < l.length := by omega
              have d2 : decide ((l.length : Int) ≤ (m : Int)) = false := decide_eq_false q2
              obtain ⟨vm, km, NM⟩ := HC.out m hm
              have a6 := (NM.below BW2.out).parent
              have m0 : (0 : Int) ≤ (m : Int) := by omega
              have m1 : (m : Int) < (l.length : Int) := by omega
              have m4 : (m : Int) < 400 := by omega
              have PM := hide (parI_nat hm)
              have a7 := HL2.out.cell m (by omega)
              have a8 := HL2.out.free m
              have HM2 := hide (HS2.out m)
              clear NM
              by_cases q3 : l[m].parent = (i : Int)
              · have f1 : (l[m].parent != (i : Int)) = false := by rw [q3]; simp
                have f2 : (l[m].parent == (i : Int)) = true := by rw [q3]; simp
                have PE : Hid (inR l (m : Int) ∧ parI l (m : Int) = (i : Int)) := ⟨⟨m0, m1⟩, by rw [PM.out, q3]⟩
                clear q3
                generalize l[m].parent = pm at *
                cases q4 : L2 m with
                | true =>
                  rw [q4] at a7
                  have E : Hid (false = true ↔ Linked l) := by
                    rcases HM2.out.1 q4 with ⟨i', r1, r2⟩ | r
                    · have := (LT.out.kid i' r1 _ r2).2
                      rw [PE.out.2] at this
                      omega
                    · exact TW.out r
                  clear NO TW E2 HM2 PM q4
                  go_wp2_with fail
                  go_ret
                  exact ⟨⟨false, rfl, E.out⟩, BW2.out⟩
                | false =>
                  rw [q4] at a7
                  have NM : Hid (¬ (m : Int) ∈ l[i].kids.take j) := fun r => by
                    have := HM2.out.2 (.inr r)
                    rw [q4] at this; cases this
                  clear NO TW HM2 PM q4
                  go_wp2_with fail
                  go_roundw
                  case rel =>
                    refine ⟨j + 1, _, by omega, by go_num, HL2.out.set (y := m) (by omega), (fun x => ?_), (fun c hc => ?_), ?_, BW2.out.setCell (Nat.le_refl _) _⟩
                    · rw [E2.out, List.mem_append, List.mem_singleton]
                      by_cases e : x = m
                      · subst e; rw [if_pos rfl]; exact ⟨fun _ => .inr (.inr rfl), fun _ => rfl⟩
                      · rw [if_neg e, HS2.out x]
                        constructor
                        · rintro (r | r)
                          · exact .inl r
                          · exact .inr (.inl r)
                        · rintro (r | r | r)
                          · exact .inl r
                          · exact .inr r
                          · omega
                    · rw [E2.out] at hc
                      rcases List.mem_append.1 hc with r | r
                      · exact HK2.out c r
                      · rw [List.mem_singleton.1 r]; exact PE.out
                    · show List.Nodup _
                      rw [E2.out, List.nodup_append]
                      exact ⟨HD2.out, by simp, fun a ha b hb e => by rw [List.mem_singleton.1 hb] at e; rw [e] at ha; exact NM.out ha⟩
                  case measure => simp [intOf]; omega
              · have f1 : (l[m].parent != (i : Int)) = true := by rw [bne_iff_ne]; exact q3
                have f2 : (l[m].parent == (i : Int)) = false := by rw [beq_eq_false_iff_ne]; exact q3
                have E := hide (NO.out (fun r => q3 (by rw [← PM.out]; exact r.2)))
                clear NO TW E2 PM q3 HM2
                generalize l[m].parent = pm at *
                go_wp2_with fail
                go_ret
                exact ⟨⟨false, rfl, E.out⟩, BW2.out⟩
        · obtain rfl : j = l[i].kids.length := by omega
          have F1 := HS2.out
          have F2 := HK2.out
          have F3 := HD2.out
          rw [List.take_length, ← KN.out] at F1 F2 F3
          have G1 : Hid (∀ x : Nat, L2 x = true ↔ seenB l (i + 1) (x : Int)) := fun x => by rw [seen_more]; exact F1 x
          have G2 : Hid (LinkTo l (i + 1)) := link_more LT.out F2 F3
          clear F1 F2 F3 hjj
          go_wp2_with fail
          go_roundw
          case rel => exact ⟨i + 1, L2, by omega, by go_num, HL2, G1, G2, BW2⟩
          case measure => simp [intOf]; omega
    · obtain rfl : i = l.length := by omega
      clear h
      go_wp2_with fail
      go_ret
      exact ⟨⟨true, rfl, ⟨fun _ => ⟨LT.out.kid, LT.out.once⟩, fun _ => rfl⟩⟩, BW.out⟩

end Go.Proofs.YtdbabciafifnaaaGreatDoor
