/- The program's way to groups of radio buttons. The program's Enter and its closure of layer 24, slices.ContainsFunc of numbers. Stage 24's wakes and its laws SubmitSettings, SubmitQueries, SubmitEnters, walked. -/
import Derived.Test.YtnojgejcmaajmaaGreatDoorJsb61
import Derived.Test.YtnojgejcmaajmaaGreatDoorJsb63

namespace Go.Proofs.YtnojgejcmaajmaaGreatDoor
open Go.RowKit
theorem anc_trans {l : List Nd} (h : Right l) : ∀ (d : Nat) {k x y : Int}, k < (l.length : Int) → hgt l k ≤ d → x ∈ anc l k → y ∈ anc l x → y ∈ anc l k
  | 0, k, x, y, hk, hd, hx, hy => by
    by_cases k0 : k < 0
    · rw [anc_neg k0] at hx; cases hx
    · have := hgt_up (h.ende hk) k0
      omega
  | d + 1, k, x, y, hk, hd, hx, hy => by
    by_cases k0 : k < 0
    · rw [anc_neg k0] at hx; cases hx
    · have hu := anc_up (h.ende hk) k0
      have hh := hgt_up (h.ende hk) k0
      have pr := h.up (k := k) (by omega) hk
      rw [hu] at hx ⊢
      rcases List.mem_cons.1 hx with rfl | hx
      · rw [← hu]; exact hy
      · exact List.mem_cons_of_mem _ (anc_trans h d pr.2 (by omega) hx hy)
theorem top_anc {l : List Nd} (h : Right l) {k x : Int} (h0 : 0 ≤ k) (hk : k < (l.length : Int)) (hx : x ∈ anc l k) : topP l k = topP l x := by
  have r := anc_range l (fun i hi => (h.par i hi).2) _ _ hk x hx
  have a := top_root h _ h0 hk (Nat.le_refl _)
  have b := top_root h _ r.1 r.2 (Nat.le_refl _)
  exact root_one h _ hk (Nat.le_refl _) a.1 (anc_trans h _ hk (Nat.le_refl _) hx b.1) a.2 b.2
theorem par_root {l : List Nd} (h : Right l) {t : Nat} (ht : t < l.length) : parI l (t : Int) < 0 ↔ (nd l t).parent = -1 := by
  have p := h.par t ht
  rw [nd_at ht] at p ⊢
  have e : parI l (t : Int) = l[t].parent := by unfold parI; rw [Int.toNat_natCast, nd_at ht]
  rw [e]
  omega
theorem top_self {l : List Nd} (h : Right l) {t : Nat} (ht : t < l.length) (hp : (nd l t).parent = -1) : topP l (t : Int) = (t : Int) := by
  have a := top_root h _ (k := (t : Int)) (by omega) (by omega) (Nat.le_refl _)
  exact root_one h _ (k := (t : Int)) (by omega) (Nat.le_refl _) a.1 (anc_self h (by omega) (by omega)) a.2 ((par_root h ht).2 hp)
theorem form_top {l : List Nd} (h : Right l) {k : Int} (hf : 0 ≤ formP l k) : topP l k = topP l (formP l k) := by
  have r := (form_in h hf).1
  unfold formP at hf r ⊢
  by_cases q : hasN l k = true ∧ belongs l k = true
  · rw [if_pos q] at hf r ⊢
    have hk : 0 ≤ k ∧ k < (l.length : Int) := by
      have := q.1
      unfold hasN at this
      rw [Bool.and_eq_true, decide_eq_true_eq] at this
      exact this.1
    unfold formC at hf r ⊢
    by_cases g : hasA (nd l k.toNat) oForm = true ∧ topP l k = 0
    · rw [if_pos g] at hf r ⊢
      unfold saidF at hf r ⊢
      by_cases t : 0 ≤ namedP l (fndS (nd l k.toNat).attrs oForm) ∧ nmI l (namedP l (fndS (nd l k.toNat).attrs oForm)) = oForm
      · rw [if_pos t] at hf r ⊢
        have t0 := t.1
        unfold namedP at t0 hf r ⊢
        split at t0
        · omega
        · rename_i e
          rw [if_neg e] at hf r ⊢
          cases e2 : (orderP l 0).find? (hasId l (fndS (nd l k.toNat).attrs oForm)) with
          | none => rw [e2] at t0; simp at t0
          | some x =>
            rw [e2, Option.getD_some] at hf r
            rw [Option.getD_some]
            have m := (order_mem h (by omega) (by have := h.len.1; omega) x).1 (List.mem_of_find?_eq_some e2)
            rw [top_anc h m.1 m.2.1 m.2.2]
            have z := top_root h _ hk.1 hk.2 (Nat.le_refl _)
            rw [g.2] at z
            rw [g.2]
            have l0 : 0 < l.length := by omega
            have a := top_self h (t := 0) l0 ((par_root h l0).1 z.2)
            exact a.symm
      · rw [if_neg t] at hf
        omega
    · rw [if_neg g] at hf r ⊢
      unfold upP at hf r ⊢
      cases e2 : (anc l (parI l k)).find? (fun k => decide ((nd l k.toNat).name = oForm)) with
      | none => rw [e2] at hf; simp at hf
      | some x =>
        rw [Option.getD_some]
        have m := List.mem_of_find?_eq_some e2
        refine top_anc h hk.1 hk.2 ?_
        rw [anc_up (h.ende hk.2) (by omega)]
        exact List.mem_cons_of_mem _ m
  · rw [if_neg q] at hf
    omega
end Go.Proofs.YtnojgejcmaajmaaGreatDoor

namespace Go.Proofs.YtnojgejcmaajmaaGreatDoor
open Go.RowKit
set_option maxRecDepth 100000
theorem ancF_pos {l : List Nd} : ∀ {n : Nat} {k x : Int}, x ∈ ancF l n k → 0 ≤ x
  | 0, _, _, h => by cases h
  | n + 1, k, x, h => by
    unfold ancF at h
    split at h
    · cases h
    · rcases List.mem_cons.1 h with e | e
      · omega
      · exact ancF_pos e
theorem form_low {l : List Nd} {k : Int} : -1 ≤ formP l k := by
  unfold formP
  split
  · unfold formC
    split
    · unfold saidF
      split
      · rename_i h; omega
      · omega
    · unfold upP
      cases e : (anc l (parI l k)).find? (fun x => decide ((nd l x.toNat).name = oForm)) with
      | none => simp
      | some x =>
        rw [Option.getD_some]
        have := List.mem_of_find?_eq_some e
        have := ancF_pos this
        omega
  · omega
theorem dflt_low {l : List Nd} (hR : Right l) {f : Int} (f0 : 0 ≤ f) (hf : f < (l.length : Int)) : -1 ≤ defaultP l f := by
  unfold defaultP
  split
  · cases e : (orderP l (topP l f)).find? (fireF l f) with
    | none => simp
    | some x =>
      rw [Option.getD_some]
      have tr := top_rng hR f0 hf
      have := (order_mem hR tr.1 tr.2 x).1 (List.mem_of_find?_eq_some e)
      omega
  · omega
theorem el_self {l : List Nd} (hR : Right l) {id : Int} (h : 0 ≤ formP l id) (hb : blockB (kI l id) = true) : id ∈ elementsP l (formP l id) := by
  obtain ⟨f1, fK⟩ := form_in hR h
  have ih := form_has (show ¬ formP l id < 0 by omega)
  have rg : 0 ≤ id ∧ id < (l.length : Int) := by
    unfold hasN at ih
    rw [Bool.and_eq_true, decide_eq_true_eq] at ih
    exact ih.1
  have tr := top_rng hR h f1
  unfold elementsP
  rw [if_pos fK]
  refine List.mem_filter.2 ⟨(order_mem hR tr.1 tr.2 id).2 ⟨rg.1, rg.2, ?_⟩, ?_⟩
  · rw [← form_top hR h]
    exact (top_root hR _ rg.1 rg.2 (Nat.le_refl _)).1
  · unfold elB
    rw [decide_eq_true rfl, Bool.and_true]
    unfold blockB at hb
    rw [decide_eq_true_eq] at hb
    exact decide_eq_true (by omega)
theorem el_once {l : List Nd} (hR : Right l) {f : Int} (f0 : 0 ≤ f) (hf : f < (l.length : Int)) : (elementsP l f).Nodup := by
  have tr := top_rng hR f0 hf
  unfold elementsP
  split
  · exact (order_nodup hR tr.1 tr.2).filter _
  · exact List.nodup_nil
/-- One more that blocks. -/
def anoB (l : List Nd) (id : Int) (x : Int) : Bool := (x != id) && blockB (kI l x)
theorem blk_one {l : List Nd} {id : Int} (hb : blockB (kI l id) = true) : ∀ {ks : List Int}, ks.Nodup → id ∈ ks → (blkN l ks ≤ 1 ↔ ks.any (anoB l id) = false) := by
  intro ks hn hi
  have h1 : ∀ {ks : List Int}, id ∉ ks → (blkN l ks = 0 ↔ ks.any (anoB l id) = false) := by
    intro ks hi
    unfold blkN
    rw [List.length_eq_zero_iff, List.filter_eq_nil_iff, List.any_eq_false]
    refine ⟨fun h x hx => ?_, fun h x hx => ?_⟩
    · have := h x hx
      unfold anoB
      rw [Bool.not_eq_true] at this ⊢
      rw [this, Bool.and_false]
    · have g := h x hx
      unfold anoB at g
      have ne : (x != id) = true := by
        rw [bne_iff_ne]
        intro e; exact hi (e ▸ hx)
      rw [ne, Bool.true_and] at g
      exact g
  induction ks with
  | nil => cases hi
  | cons a t ih =>
    rw [List.nodup_cons] at hn
    rcases List.mem_cons.1 hi with e | e
    · subst e
      have z : anoB l id id = false := by unfold anoB; simp
      rw [List.any_cons, z, Bool.false_or, ← h1 hn.1]
      have : blkN l (id :: t) = blkN l t + 1 := by unfold blkN; rw [List.filter_cons_of_pos (by exact hb), List.length_cons]
      omega
    · have ne : (a != id) = true := by
        rw [bne_iff_ne]
        intro q; exact hn.1 (q ▸ e)
      rw [List.any_cons]
      cases ab : blockB (kI l a) with
      | true =>
        have : anoB l id a = true := by unfold anoB; rw [ne, ab]; rfl
        rw [this, Bool.true_or]
        have c : blkN l (a :: t) = blkN l t + 1 := by unfold blkN; rw [List.filter_cons_of_pos (by exact ab), List.length_cons]
        have d : 0 < blkN l t := by
          unfold blkN
          exact List.length_pos_of_mem (List.mem_filter.2 ⟨e, hb⟩)
        refine ⟨fun h => by omega, fun h => by cases h⟩
      | false =>
        have : anoB l id a = false := by unfold anoB; rw [ab, Bool.and_false]
        rw [this, Bool.false_or]
        have c : blkN l (a :: t) = blkN l t := by unfold blkN; rw [List.filter_cons_of_neg (by rw [ab]; decide)]
        rw [c]
        exact ih hn.2 e
theorem ret_twoB {a b c d : Int} (h : a = b) (g : c = d) : Ending.returned (.tuple #[.int .i64 a, .int .i64 c]) = .returned (.tuple #[.int .i64 b, .int .i64 d]) := by rw [h, g]
/-- A question of the numbers of a row, that may be a closure. -/
def PredM (g : Nat) (lb : Array Value) (p : Int → Bool) (ks : List Int) (w : World) : Prop :=
  ∀ (W : World) (x : Int), x ∈ ks → Below w.heap.size w W → Calls Tryz.prog g (#[.int .i64 x] ++ lb) W fun e w' => e = .returned (.bool (p x)) ∧ Below W.heap.size W w'
theorem idxm_hit {ks : List Int} {p : Int → Bool} {k : Nat} (h : k < ks.length) (hp : p ks[k] = true) (hd : ∀ j (hj : j < ks.length), j < k → p ks[j] = false) : ks.findIdx? p = some k := by
  rw [List.findIdx?_eq_some_iff_getElem]
  exact ⟨h, hp, fun j hj => by rw [hd j (by omega) hj]; decide⟩
theorem idxm_miss {ks : List Int} {p : Int → Bool} (hd : ∀ j (hj : j < ks.length), p ks[j] = false) : ks.findIdx? p = none := by
  rw [List.findIdx?_eq_none_iff]
  intro x hx
  obtain ⟨j, hj, rfl⟩ := List.getElem_of_mem hx
  exact hd j hj
set_option maxHeartbeats 2000000 in
theorem indexFuncM_any (v : Value) (ks : List Int) (p : Int → Bool) (g : Nat) (lb : Array Value) (eg : ∀ args w, (callFunc g args).run Tryz.prog w = .ok (.enter g args) w) (w : World) (hv : IntsV w v ks) (hp : PredM g lb p ks w) (hl : ks.length ≤ 17592186044416) :
    Calls Tryz.prog 122 #[v, .func (.func g) #[] lb] w fun e w' => e = .returned (.int .i64 (findV (ks.findIdx? p))) ∧ Below w.heap.size w w' := by
  obtain ⟨pp, c, rfl, hv⟩ := hv
  have HIT := hide (fun k h h1 h2 => idxm_hit (ks := ks) (p := p) (k := k) h h1 h2)
  have MISS := hide (fun h => idxm_miss (ks := ks) (p := p) h)
  generalize ks.findIdx? p = R at *
  have HP := hide hp
  clear hp
  go_enter Tryz.func122, Tryz.ntmps122
  go_wp2_with fail
  go_loopw [8] (fun iv wr => ∃ k : Nat, k ≤ ks.length ∧ iv = .int .i64 k ∧ Hid (∀ j (hj : j < ks.length), j < k → p ks[j] = false) ∧ Hid (Below w.heap.size w wr)) (fun iv _ => ks.length - (intOf iv).toNat)
  case atStart => exact ⟨0, Nat.zero_le _, rfl, fun j _ q => by omega, Below.refl _ _⟩
  case round =>
    rename World => wr
    obtain ⟨k, hk, rfl, hd, BW⟩ := hrel
    by_cases h : k < ks.length
    · have i1 : (k : Int) < (ks.length : Int) := by omega
      rcases hv with hv | ⟨b, o, rfl, hv⟩
      · rw [hv] at h; simp at h
      have c0 := cell_below (hv k h) BW.out
      have HC := hide (HP.out wr ks[k] (List.getElem_mem h) BW.out)
      have HK := hide (HIT.out k h)
      have ND := hide (fun q : p ks[k] = false => (fun j (hj : j < ks.length) (r : j < k + 1) => by
        rcases Nat.lt_or_ge j k with t | t
        · exact hd.out j hj t
        · obtain rfl : j = k := by omega
          exact q : ∀ j (hj : j < ks.length), j < k + 1 → p ks[j] = false))
      clear hv HP HIT MISS
      cases q : p ks[k] with
      | true =>
        have E := hide (HK.out q (fun j hj r => hd.out j hj r))
        rw [q] at HC
        clear HK ND q hd
        generalize ks[k] = x1 at *
        go_wp2_with fail
        refine HC.out.mono ?_
        rintro e w' ⟨rfl, hb'⟩
        go_wp2_with fail
        go_ret
        exact ⟨by rw [E.out]; rfl, chain BW.out hb'⟩
      | false =>
        have E := hide (ND.out q)
        rw [q] at HC
        clear HK ND q hd
        generalize ks[k] = x1 at *
        go_wp2_with fail
        refine HC.out.mono ?_
        rintro e w' ⟨rfl, hb'⟩
        go_wp2_with fail
        go_roundw
        case rel => exact ⟨k + 1, by omega, by go_num, E, chain BW.out hb'⟩
        case measure => simp [intOf]; omega
    · obtain rfl : k = ks.length := by omega
      have E := hide (MISS.out (fun j hj => hd.out j hj hj))
      clear HIT MISS hd hv h
      go_wp2_with fail
      go_ret
      exact ⟨by rw [E.out]; rfl, BW.out⟩
set_option maxHeartbeats 4000000 in
theorem containsFuncM_any (v : Value) (ks : List Int) (p : Int → Bool) (g : Nat) (lb : Array Value) (eg : ∀ args w, (callFunc g args).run Tryz.prog w = .ok (.enter g args) w) (w : World) (hv : IntsV w v ks) (hp : PredM g lb p ks w) (hl : ks.length ≤ 17592186044416) :
    Calls Tryz.prog 62 #[v, .func (.func g) #[] lb] w fun e w' => e = .returned (.bool (ks.any p)) ∧ Below w.heap.size w w' := by
  have HI := hide (indexFuncM_any v ks p g lb eg w hv hp hl)
  obtain ⟨pp, c, rfl, hxx⟩ := hv
  clear hxx hp eg
  have HY := hide (fun i (h : ks.findIdx? p = some i) => by
    obtain ⟨hi, h1, _⟩ := List.findIdx?_eq_some_iff_getElem.1 h
    exact (List.any_eq_true.2 ⟨ks[i], List.getElem_mem hi, h1⟩ : ks.any p = true))
  have HN := hide (fun (h : ks.findIdx? p = none) => by
    exact (List.any_eq_false.2 (fun x hx => by rw [List.findIdx?_eq_none_iff] at h; rw [h x hx]; decide) : ks.any p = false))
  generalize ks.any p = R at *
  cases h : ks.findIdx? p with
  | none =>
    have E := hide (HN.out h)
    rw [h, show findV none = -1 from rfl] at HI
    clear HY HN h
    go_enter Tryz.func62, Tryz.ntmps62
    go_wp2_with fail
    refine HI.out.mono ?_
    rintro e w1 ⟨rfl, b1⟩
    go_wp2_with fail
    go_ret
    exact ⟨ret_bool E.out.symm, b1⟩
  | some i =>
    have E := hide (HY.out i h)
    rw [h, show findV (some i) = (i : Int) from rfl] at HI
    have i2 : (0 : Int) ≤ (i : Int) := by omega
    have i3 : decide ((0 : Int) ≤ (i : Int)) = true := decide_eq_true i2
    clear HY HN h
    go_enter Tryz.func62, Tryz.ntmps62
    go_wp2_with fail
    refine HI.out.mono ?_
    rintro e w1 ⟨rfl, b1⟩
    go_wp2_with fail
    go_ret
    exact ⟨ret_bool E.out.symm, b1⟩
theorem entSbE1 : ∀ args w, (callFunc 61 args).run Tryz.prog w = .ok (.enter 61 args) w := Go.Proofs.enters_of Tryz.func61 (by kernel_rfl) rfl
set_option maxHeartbeats 8000000 in
theorem sbEnter1_any (v : Value) (l : List Nd) (q : Nat) (id : Int) (Bi Bl : Nat) (w : World) (hv : NodesV w v l) (hz : DocSz l) (hT : KTabs w) (hq : q < l.length) (x1 : w.cell? ⟨Bi, 0, none⟩ = some (.int .i64 id)) (x2 : w.cell? ⟨Bl, 0, none⟩ = some v) :
    Calls Tryz.prog 61 #[.int .i64 (q : Int), .pointer (some ⟨Bi, 0, none⟩), .pointer (some ⟨Bl, 0, none⟩)] w fun e w' => e = .returned (.bool (anoB l id (q : Int))) ∧ Below w.heap.size w w' := by
  have HB := hide (fun W (hb : Below w.heap.size w W) => sbBlocks_any v l q W (hv.below hb) hz (hT.below hb) hq)
  obtain ⟨p, c, rfl⟩ := nds_formW hv
  unfold anoB
  generalize blockB (kI l (q : Int)) = R at *
  clear hv hz hT
  by_cases h : (q : Int) = id
  · have n1 : ((q : Int) != id) = false := by rw [h]; simp
    rw [n1, Bool.false_and]
    clear HB
    go_enter Tryz.func61, Tryz.ntmps61
    go_wp2_with fail
    go_ret
    exact ⟨rfl, Below.refl _ _⟩
  · have n1 : ((q : Int) != id) = true := by rw [bne_iff_ne]; exact h
    rw [n1, Bool.true_and]
    go_enter Tryz.func61, Tryz.ntmps61
    go_wp2_with fail
    refine (HB.out _ (Below.refl _ _)).mono ?_
    rintro e w1 ⟨rfl, b1⟩
    go_wp2_with fail
    go_ret
    exact ⟨rfl, b1⟩
set_option maxHeartbeats 16000000 in
theorem sbEnter_any (v : Value) (l : List Nd) (id : Int) (w : World) (hv : NodesV w v l) (hz : DocSz l) (hT : KTabs w) :
    Calls Tryz.prog 16 #[v, .int .i64 id] w fun e w' => e = .returned (.tuple #[.int .i64 (entP l id).1, .int .i64 (entP l id).2]) ∧ Below w.heap.size w w' := by
  have HD := hide (fun W (hb : Below w.heap.size w W) => owDisabled_any v l id W (hv.below hb) hz (hT.below hb))
  have HFo := hide (fun W (hb : Below w.heap.size w W) => owForm_any v l id W (hv.below hb) hz (hT.below hb))
  have HDe := hide (fun f W (hb : Below w.heap.size w W) => owDefault_any v l f W (hv.below hb) hz (hT.below hb))
  have HDi := hide (fun f W (hb : Below w.heap.size w W) => owDisabled_any v l f W (hv.below hb) hz (hT.below hb))
  have HEl := hide (fun f W (hb : Below w.heap.size w W) => owElements_any v l f W (hv.below hb) hz (hT.below hb))
  have HP := hide (fun Bi Bl q (hq : q < l.length) W (hb : Below w.heap.size w W) x1 x2 => sbEnter1_any v l q id Bi Bl W (hv.below hb) hz (hT.below hb) hq x1 x2)
  have HB : Hid (hereB l.length id = true → ∀ W, Below w.heap.size w W → Calls Tryz.prog 57 #[v, .int .i64 id] W fun e w' => e = .returned (.bool (blockB (kI l id))) ∧ Below W.heap.size W w') := by
    intro h W hb
    obtain ⟨m, rfl, hm⟩ := here_of h
    exact sbBlocks_any v l m W (hv.below hb) hz (hT.below hb) hm
  obtain ⟨p, c, rfl⟩ := nds_formW hv
  have HI := hide (fun W (_ : Below w.heap.size w W) => (sbIsThere_any p l.length c id W).mono fun e w' (h : e = .returned (.bool (hereB l.length id)) ∧ w' = W) => (⟨h.1, by rw [h.2]; exact Below.refl _ _⟩ : e = .returned (.bool (hereB l.length id)) ∧ Below W.heap.size W w'))
  clear hv hz hT
  cases h : hereB l.length id with
  | false =>
    have q : formP l id < 0 := by
      apply Classical.byContradiction
      intro q
      have := form_has q
      rw [hasN_here, h] at this; cases this
    have E1 : Hid ((entP l id).1 = -1) := by show _ = _; unfold entP; rw [if_pos (.inl q)]
    have E2 : Hid ((entP l id).2 = 0) := by show _ = _; unfold entP; rw [if_pos (.inl q)]
    generalize (entP l id).1 = R1 at *
    generalize (entP l id).2 = R2 at *
    rw [h] at HI
    clear h q HB HD HFo HDe HDi HEl HP
    go_enter Tryz.func16, Tryz.ntmps16
    go_upto_region 1 with fail
    have K1 : Hid (Bk ((w.alloc (.cells #[.slice p l.length c] 22)).alloc (.cells #[.int .i64 id] 3)) w.heap.size [.slice p l.length c] 22) := (Bk.new w _ _).below ((Below.refl _ _).alloc (Nat.le_refl _) _)
    have K2 : Hid (Bk ((w.alloc (.cells #[.slice p l.length c] 22)).alloc (.cells #[.int .i64 id] 3)) (w.heap.size + 1) [.int .i64 id] 3) := by
      have := Bk.new (w.alloc (.cells #[.slice p l.length c] 22)) [.int .i64 id] 3
      rw [World.size_alloc] at this
      exact this
    have BB : Hid (Below w.heap.size w ((w.alloc (.cells #[.slice p l.length c] 22)).alloc (.cells #[.int .i64 id] 3))) := ((Below.refl _ w).alloc (Nat.le_refl _) _).alloc (by simp) _
    generalize ((w.alloc (.cells #[.slice p l.length c] 22)).alloc (.cells #[.int .i64 id] 3)) = w0 at *
    generalize w.heap.size + 1 = n1 at *
    have x1 := K1.out.cell 0 rfl
    have x2 := K2.out.cell 0 rfl
    have BC := hide BB.out
    clear x1 x2
    have x1 := K1.out.cell 0 rfl
    have x2 := K2.out.cell 0 rfl
    go_wp2_with fail
    refine (HI.out _ BC.out).mono ?_
    rintro e wa ⟨rfl, bx⟩
    replace BC := hide (chain BC.out bx)
    replace K1 := hide (K1.out.below bx)
    replace K2 := hide (K2.out.below bx)
    clear bx
    clear x1 x2
    have x1 := K1.out.cell 0 rfl
    have x2 := K2.out.cell 0 rfl
    go_wp2_with fail
    go_ret2
    exact ⟨ret_twoB E1.out.symm E2.out.symm, BC.out⟩
  | true =>
    replace HB := hide (HB.out h)
    rw [h] at HI
    cases hb : blockB (kI l id) with
    | false =>
      have E1 : Hid ((entP l id).1 = -1) := by show _ = _; unfold entP; rw [if_pos (.inr (.inl hb))]
      have E2 : Hid ((entP l id).2 = 0) := by show _ = _; unfold entP; rw [if_pos (.inr (.inl hb))]
      generalize (entP l id).1 = R1 at *
      generalize (entP l id).2 = R2 at *
      rw [hb] at HB
      clear h hb HD HFo HDe HDi HEl HP
      go_enter Tryz.func16, Tryz.ntmps16
      go_upto_region 1 with fail
      have K1 : Hid (Bk ((w.alloc (.cells #[.slice p l.length c] 22)).alloc (.cells #[.int .i64 id] 3)) w.heap.size [.slice p l.length c] 22) := (Bk.new w _ _).below ((Below.refl _ _).alloc (Nat.le_refl _) _)
      have K2 : Hid (Bk ((w.alloc (.cells #[.slice p l.length c] 22)).alloc (.cells #[.int .i64 id] 3)) (w.heap.size + 1) [.int .i64 id] 3) := by
        have := Bk.new (w.alloc (.cells #[.slice p l.length c] 22)) [.int .i64 id] 3
        rw [World.size_alloc] at this
        exact this
      have BB : Hid (Below w.heap.size w ((w.alloc (.cells #[.slice p l.length c] 22)).alloc (.cells #[.int .i64 id] 3))) := ((Below.refl _ w).alloc (Nat.le_refl _) _).alloc (by simp) _
      generalize ((w.alloc (.cells #[.slice p l.length c] 22)).alloc (.cells #[.int .i64 id] 3)) = w0 at *
      generalize w.heap.size + 1 = n1 at *
      have x1 := K1.out.cell 0 rfl
      have x2 := K2.out.cell 0 rfl
      have BC := hide BB.out
      clear x1 x2
      have x1 := K1.out.cell 0 rfl
      have x2 := K2.out.cell 0 rfl
      go_wp2_with fail
      refine (HI.out _ BC.out).mono ?_
      rintro e wa ⟨rfl, bx⟩
      replace BC := hide (chain BC.out bx)
      replace K1 := hide (K1.out.below bx)
      replace K2 := hide (K2.out.below bx)
      clear bx
      clear x1 x2
      have x1 := K1.out.cell 0 rfl
      have x2 := K2.out.cell 0 rfl
      go_wp2_with fail
      refine (HB.out _ BC.out).mono ?_
      rintro e wb ⟨rfl, bx⟩
      replace BC := hide (chain BC.out bx)
      replace K1 := hide (K1.out.below bx)
      replace K2 := hide (K2.out.below bx)
      clear bx
      clear x1 x2
      have x1 := K1.out.cell 0 rfl
      have x2 := K2.out.cell 0 rfl
      go_wp2_with fail
      go_ret2
      exact ⟨ret_twoB E1.out.symm E2.out.symm, BC.out⟩
    | true =>
      cases hd : disabledP l id with
      | true =>
        have E1 : Hid ((entP l id).1 = -1) := by show _ = _; unfold entP; rw [if_pos (.inr (.inr hd))]
        have E2 : Hid ((entP l id).2 = 0) := by show _ = _; unfold entP; rw [if_pos (.inr (.inr hd))]
        generalize (entP l id).1 = R1 at *
        generalize (entP l id).2 = R2 at *
        rw [hb] at HB
        rw [hd] at HD
        clear h hb hd HFo HDe HDi HEl HP
        go_enter Tryz.func16, Tryz.ntmps16
        go_upto_region 1 with fail
        have K1 : Hid (Bk ((w.alloc (.cells #[.slice p l.length c] 22)).alloc (.cells #[.int .i64 id] 3)) w.heap.size [.slice p l.length c] 22) := (Bk.new w _ _).below ((Below.refl _ _).alloc (Nat.le_refl _) _)
        have K2 : Hid (Bk ((w.alloc (.cells #[.slice p l.length c] 22)).alloc (.cells #[.int .i64 id] 3)) (w.heap.size + 1) [.int .i64 id] 3) := by
          have := Bk.new (w.alloc (.cells #[.slice p l.length c] 22)) [.int .i64 id] 3
          rw [World.size_alloc] at this
          exact this
        have BB : Hid (Below w.heap.size w ((w.alloc (.cells #[.slice p l.length c] 22)).alloc (.cells #[.int .i64 id] 3))) := ((Below.refl _ w).alloc (Nat.le_refl _) _).alloc (by simp) _
        generalize ((w.alloc (.cells #[.slice p l.length c] 22)).alloc (.cells #[.int .i64 id] 3)) = w0 at *
        generalize w.heap.size + 1 = n1 at *
        have x1 := K1.out.cell 0 rfl
        have x2 := K2.out.cell 0 rfl
        have BC := hide BB.out
        clear x1 x2
        have x1 := K1.out.cell 0 rfl
        have x2 := K2.out.cell 0 rfl
        go_wp2_with fail
        refine (HI.out _ BC.out).mono ?_
        rintro e wa ⟨rfl, bx⟩
        replace BC := hide (chain BC.out bx)
        replace K1 := hide (K1.out.below bx)
        replace K2 := hide (K2.out.below bx)
        clear bx
        clear x1 x2
        have x1 := K1.out.cell 0 rfl
        have x2 := K2.out.cell 0 rfl
        go_wp2_with fail
        refine (HB.out _ BC.out).mono ?_
        rintro e wb ⟨rfl, bx⟩
        replace BC := hide (chain BC.out bx)
        replace K1 := hide (K1.out.below bx)
        replace K2 := hide (K2.out.below bx)
        clear bx
        clear x1 x2
        have x1 := K1.out.cell 0 rfl
        have x2 := K2.out.cell 0 rfl
        go_wp2_with fail
        refine (HD.out _ BC.out).mono ?_
        rintro e wc ⟨rfl, bx⟩
        replace BC := hide (chain BC.out bx)
        replace K1 := hide (K1.out.below bx)
        replace K2 := hide (K2.out.below bx)
        clear bx
        clear x1 x2
        have x1 := K1.out.cell 0 rfl
        have x2 := K2.out.cell 0 rfl
        go_wp2_with fail
        go_ret2
        exact ⟨ret_twoB E1.out.symm E2.out.symm, BC.out⟩
      | false =>
        by_cases hf : formP l id < 0
        · have ef : formP l id = -1 := by have := form_low (l := l) (k := id); omega
          have E1 : Hid ((entP l id).1 = -1) := by show _ = _; unfold entP; rw [if_pos (.inl hf)]
          have E2 : Hid ((entP l id).2 = 0) := by show _ = _; unfold entP; rw [if_pos (.inl hf)]
          generalize (entP l id).1 = R1 at *
          generalize (entP l id).2 = R2 at *
          rw [hb] at HB
          rw [hd] at HD
          rw [ef] at HFo
          clear h hb hd hf ef HDe HDi HEl HP
          go_enter Tryz.func16, Tryz.ntmps16
          go_upto_region 1 with fail
          have K1 : Hid (Bk ((w.alloc (.cells #[.slice p l.length c] 22)).alloc (.cells #[.int .i64 id] 3)) w.heap.size [.slice p l.length c] 22) := (Bk.new w _ _).below ((Below.refl _ _).alloc (Nat.le_refl _) _)
          have K2 : Hid (Bk ((w.alloc (.cells #[.slice p l.length c] 22)).alloc (.cells #[.int .i64 id] 3)) (w.heap.size + 1) [.int .i64 id] 3) := by
            have := Bk.new (w.alloc (.cells #[.slice p l.length c] 22)) [.int .i64 id] 3
            rw [World.size_alloc] at this
            exact this
          have BB : Hid (Below w.heap.size w ((w.alloc (.cells #[.slice p l.length c] 22)).alloc (.cells #[.int .i64 id] 3))) := ((Below.refl _ w).alloc (Nat.le_refl _) _).alloc (by simp) _
          generalize ((w.alloc (.cells #[.slice p l.length c] 22)).alloc (.cells #[.int .i64 id] 3)) = w0 at *
          generalize w.heap.size + 1 = n1 at *
          have x1 := K1.out.cell 0 rfl
          have x2 := K2.out.cell 0 rfl
          have BC := hide BB.out
          clear x1 x2
          have x1 := K1.out.cell 0 rfl
          have x2 := K2.out.cell 0 rfl
          go_wp2_with fail
          refine (HI.out _ BC.out).mono ?_
          rintro e wa ⟨rfl, bx⟩
          replace BC := hide (chain BC.out bx)
          replace K1 := hide (K1.out.below bx)
          replace K2 := hide (K2.out.below bx)
          clear bx
          clear x1 x2
          have x1 := K1.out.cell 0 rfl
          have x2 := K2.out.cell 0 rfl
          go_wp2_with fail
          refine (HB.out _ BC.out).mono ?_
          rintro e wb ⟨rfl, bx⟩
          replace BC := hide (chain BC.out bx)
          replace K1 := hide (K1.out.below bx)
          replace K2 := hide (K2.out.below bx)
          clear bx
          clear x1 x2
          have x1 := K1.out.cell 0 rfl
          have x2 := K2.out.cell 0 rfl
          go_wp2_with fail
          refine (HD.out _ BC.out).mono ?_
          rintro e wc ⟨rfl, bx⟩
          replace BC := hide (chain BC.out bx)
          replace K1 := hide (K1.out.below bx)
          replace K2 := hide (K2.out.below bx)
          clear bx
          clear x1 x2
          have x1 := K1.out.cell 0 rfl
          have x2 := K2.out.cell 0 rfl
          go_wp2_with fail
          refine (HFo.out _ BC.out).mono ?_
          rintro e wd ⟨rfl, bx⟩
          replace BC := hide (chain BC.out bx)
          replace K1 := hide (K1.out.below bx)
          replace K2 := hide (K2.out.below bx)
          clear bx
          clear x1 x2
          have x1 := K1.out.cell 0 rfl
          have x2 := K2.out.cell 0 rfl
          go_wp2_with fail
          go_ret2
          exact ⟨ret_twoB E1.out.symm E2.out.symm, BC.out⟩
        · have hN := form_has hf
          have hR : Right l := right_is.1 (by rw [hasN_here, h, Bool.true_and] at hN; exact hN)
          have hf0 : 0 ≤ formP l id := by omega
          obtain ⟨f1, fK⟩ := form_in hR hf0
          have dl := dflt_low hR hf0 f1
          have es := el_self hR hf0 hb
          have en := el_once hR hf0 f1
          have B1 := hide (blk_one hb en es)
          have fne : (formP l id == -1) = false := by rw [beq_eq_false_iff_ne]; omega
          by_cases hg : 0 ≤ defaultP l (formP l id)
          · have gne : (defaultP l (formP l id) != -1) = true := by rw [bne_iff_ne]; omega
            cases hdd : disabledP l (defaultP l (formP l id)) with
            | true =>
              have E1 : Hid ((entP l id).1 = -1) := by show _ = _; unfold entP; rw [if_neg (fun t => t.elim hf (fun t => t.elim (fun t => by rw [hb] at t; cases t) (fun t => by rw [hd] at t; cases t))), if_pos hg, if_pos hdd]
              have E2 : Hid ((entP l id).2 = 0) := by show _ = _; unfold entP; rw [if_neg (fun t => t.elim hf (fun t => t.elim (fun t => by rw [hb] at t; cases t) (fun t => by rw [hd] at t; cases t))), if_pos hg, if_pos hdd]
              generalize (entP l id).1 = R1 at *
              generalize (entP l id).2 = R2 at *
              rw [hb] at HB
              rw [hd] at HD
              replace HDe := hide (HDe.out (formP l id))
              replace HDi := hide (HDi.out (defaultP l (formP l id)))
              rw [hdd] at HDi
              clear h hb hd hdd hN hR hf0 f1 fK dl es en B1 hg hf HEl HP
              generalize defaultP l (formP l id) = dz at *
              generalize formP l id = fz at *
              go_enter Tryz.func16, Tryz.ntmps16
              go_upto_region 1 with fail
              have K1 : Hid (Bk ((w.alloc (.cells #[.slice p l.length c] 22)).alloc (.cells #[.int .i64 id] 3)) w.heap.size [.slice p l.length c] 22) := (Bk.new w _ _).below ((Below.refl _ _).alloc (Nat.le_refl _) _)
              have K2 : Hid (Bk ((w.alloc (.cells #[.slice p l.length c] 22)).alloc (.cells #[.int .i64 id] 3)) (w.heap.size + 1) [.int .i64 id] 3) := by
                have := Bk.new (w.alloc (.cells #[.slice p l.length c] 22)) [.int .i64 id] 3
                rw [World.size_alloc] at this
                exact this
              have BB : Hid (Below w.heap.size w ((w.alloc (.cells #[.slice p l.length c] 22)).alloc (.cells #[.int .i64 id] 3))) := ((Below.refl _ w).alloc (Nat.le_refl _) _).alloc (by simp) _
              generalize ((w.alloc (.cells #[.slice p l.length c] 22)).alloc (.cells #[.int .i64 id] 3)) = w0 at *
              generalize w.heap.size + 1 = n1 at *
              have x1 := K1.out.cell 0 rfl
              have x2 := K2.out.cell 0 rfl
              have BC := hide BB.out
              clear x1 x2
              have x1 := K1.out.cell 0 rfl
              have x2 := K2.out.cell 0 rfl
              go_wp2_with fail
              refine (HI.out _ BC.out).mono ?_
              rintro e wa ⟨rfl, bx⟩
              replace BC := hide (chain BC.out bx)
              replace K1 := hide (K1.out.below bx)
              replace K2 := hide (K2.out.below bx)
              clear bx
              clear x1 x2
              have x1 := K1.out.cell 0 rfl
              have x2 := K2.out.cell 0 rfl
              go_wp2_with fail
              refine (HB.out _ BC.out).mono ?_
              rintro e wb ⟨rfl, bx⟩
              replace BC := hide (chain BC.out bx)
              replace K1 := hide (K1.out.below bx)
              replace K2 := hide (K2.out.below bx)
              clear bx
              clear x1 x2
              have x1 := K1.out.cell 0 rfl
              have x2 := K2.out.cell 0 rfl
              go_wp2_with fail
              refine (HD.out _ BC.out).mono ?_
              rintro e wc ⟨rfl, bx⟩
              replace BC := hide (chain BC.out bx)
              replace K1 := hide (K1.out.below bx)
              replace K2 := hide (K2.out.below bx)
              clear bx
              clear x1 x2
              have x1 := K1.out.cell 0 rfl
              have x2 := K2.out.cell 0 rfl
              go_wp2_with fail
              refine (HFo.out _ BC.out).mono ?_
              rintro e wd ⟨rfl, bx⟩
              replace BC := hide (chain BC.out bx)
              replace K1 := hide (K1.out.below bx)
              replace K2 := hide (K2.out.below bx)
              clear bx
              clear x1 x2
              have x1 := K1.out.cell 0 rfl
              have x2 := K2.out.cell 0 rfl
              go_wp2_with fail
              refine (HDe.out _ BC.out).mono ?_
              rintro e we ⟨rfl, bx⟩
              replace BC := hide (chain BC.out bx)
              replace K1 := hide (K1.out.below bx)
              replace K2 := hide (K2.out.below bx)
              clear bx
              clear x1 x2
              have x1 := K1.out.cell 0 rfl
              have x2 := K2.out.cell 0 rfl
              go_wp2_with fail
              refine (HDi.out _ BC.out).mono ?_
              rintro e wf ⟨rfl, bx⟩
              replace BC := hide (chain BC.out bx)
              replace K1 := hide (K1.out.below bx)
              replace K2 := hide (K2.out.below bx)
              clear bx
              clear x1 x2
              have x1 := K1.out.cell 0 rfl
              have x2 := K2.out.cell 0 rfl
              go_wp2_with fail
              go_ret2
              exact ⟨ret_twoB E1.out.symm E2.out.symm, BC.out⟩
            | false =>
              have E1 : Hid ((entP l id).1 = defaultP l (formP l id)) := by show _ = _; unfold entP; rw [if_neg (fun t => t.elim hf (fun t => t.elim (fun t => by rw [hb] at t; cases t) (fun t => by rw [hd] at t; cases t))), if_pos hg, if_neg (by rw [hdd]; decide)]
              have E2 : Hid ((entP l id).2 = 1) := by show _ = _; unfold entP; rw [if_neg (fun t => t.elim hf (fun t => t.elim (fun t => by rw [hb] at t; cases t) (fun t => by rw [hd] at t; cases t))), if_pos hg, if_neg (by rw [hdd]; decide)]
              generalize (entP l id).1 = R1 at *
              generalize (entP l id).2 = R2 at *
              rw [hb] at HB
              rw [hd] at HD
              replace HDe := hide (HDe.out (formP l id))
              replace HDi := hide (HDi.out (defaultP l (formP l id)))
              rw [hdd] at HDi
              clear h hb hd hdd hN hR hf0 f1 fK dl es en B1 hg hf HEl HP
              generalize defaultP l (formP l id) = dz at *
              generalize formP l id = fz at *
              go_enter Tryz.func16, Tryz.ntmps16
              go_upto_region 1 with fail
              have K1 : Hid (Bk ((w.alloc (.cells #[.slice p l.length c] 22)).alloc (.cells #[.int .i64 id] 3)) w.heap.size [.slice p l.length c] 22) := (Bk.new w _ _).below ((Below.refl _ _).alloc (Nat.le_refl _) _)
              have K2 : Hid (Bk ((w.alloc (.cells #[.slice p l.length c] 22)).alloc (.cells #[.int .i64 id] 3)) (w.heap.size + 1) [.int .i64 id] 3) := by
                have := Bk.new (w.alloc (.cells #[.slice p l.length c] 22)) [.int .i64 id] 3
                rw [World.size_alloc] at this
                exact this
              have BB : Hid (Below w.heap.size w ((w.alloc (.cells #[.slice p l.length c] 22)).alloc (.cells #[.int .i64 id] 3))) := ((Below.refl _ w).alloc (Nat.le_refl _) _).alloc (by simp) _
              generalize ((w.alloc (.cells #[.slice p l.length c] 22)).alloc (.cells #[.int .i64 id] 3)) = w0 at *
              generalize w.heap.size + 1 = n1 at *
              have x1 := K1.out.cell 0 rfl
              have x2 := K2.out.cell 0 rfl
              have BC := hide BB.out
              clear x1 x2
              have x1 := K1.out.cell 0 rfl
              have x2 := K2.out.cell 0 rfl
              go_wp2_with fail
              refine (HI.out _ BC.out).mono ?_
              rintro e wa ⟨rfl, bx⟩
              replace BC := hide (chain BC.out bx)
              replace K1 := hide (K1.out.below bx)
              replace K2 := hide (K2.out.below bx)
              clear bx
              clear x1 x2
              have x1 := K1.out.cell 0 rfl
              have x2 := K2.out.cell 0 rfl
              go_wp2_with fail
              refine (HB.out _ BC.out).mono ?_
              rintro e wb ⟨rfl, bx⟩
              replace BC := hide (chain BC.out bx)
              replace K1 := hide (K1.out.below bx)
              replace K2 := hide (K2.out.below bx)
              clear bx
              clear x1 x2
              have x1 := K1.out.cell 0 rfl
              have x2 := K2.out.cell 0 rfl
              go_wp2_with fail
              refine (HD.out _ BC.out).mono ?_
              rintro e wc ⟨rfl, bx⟩
              replace BC := hide (chain BC.out bx)
              replace K1 := hide (K1.out.below bx)
              replace K2 := hide (K2.out.below bx)
              clear bx
              clear x1 x2
              have x1 := K1.out.cell 0 rfl
              have x2 := K2.out.cell 0 rfl
              go_wp2_with fail
              refine (HFo.out _ BC.out).mono ?_
              rintro e wd ⟨rfl, bx⟩
              replace BC := hide (chain BC.out bx)
              replace K1 := hide (K1.out.below bx)
              replace K2 := hide (K2.out.below bx)
              clear bx
              clear x1 x2
              have x1 := K1.out.cell 0 rfl
              have x2 := K2.out.cell 0 rfl
              go_wp2_with fail
              refine (HDe.out _ BC.out).mono ?_
              rintro e we ⟨rfl, bx⟩
              replace BC := hide (chain BC.out bx)
              replace K1 := hide (K1.out.below bx)
              replace K2 := hide (K2.out.below bx)
              clear bx
              clear x1 x2
              have x1 := K1.out.cell 0 rfl
              have x2 := K2.out.cell 0 rfl
              go_wp2_with fail
              refine (HDi.out _ BC.out).mono ?_
              rintro e wf ⟨rfl, bx⟩
              replace BC := hide (chain BC.out bx)
              replace K1 := hide (K1.out.below bx)
              replace K2 := hide (K2.out.below bx)
              clear bx
              clear x1 x2
              have x1 := K1.out.cell 0 rfl
              have x2 := K2.out.cell 0 rfl
              go_wp2_with fail
              go_ret2
              exact ⟨ret_twoB E1.out.symm E2.out.symm, BC.out⟩
          · have dn : defaultP l (formP l id) = -1 := by omega
            have EL : Hid ((elementsP l (formP l id)).length ≤ 17592186044416 ∧ ∀ x ∈ elementsP l (formP l id), 0 ≤ x ∧ x < (l.length : Int)) := ⟨Nat.le_trans (el_few).1 (by decide), (el_few).2⟩
            have RS : Hid ((entP l id).1 = (if (elementsP l (formP l id)).any (anoB l id) = true then -1 else formP l id) ∧ (entP l id).2 = (if (elementsP l (formP l id)).any (anoB l id) = true then 0 else 2)) := by
              show _ ∧ _
              unfold entP
              rw [if_neg (fun t => t.elim hf (fun t => t.elim (fun t => by rw [hb] at t; cases t) (fun t => by rw [hd] at t; cases t))), if_neg hg]
              cases ha : (elementsP l (formP l id)).any (anoB l id) with
              | true =>
                rw [if_neg (fun t => by rw [B1.out.1 t] at ha; cases ha)]
                exact ⟨rfl, rfl⟩
              | false =>
                rw [if_pos (B1.out.2 ha)]
                exact ⟨rfl, rfl⟩
            rw [hb] at HB
            rw [hd] at HD
            replace HDe := hide (HDe.out (formP l id))
            replace HEl := hide (HEl.out (formP l id))
            rw [dn] at HDe
            generalize (entP l id).1 = R1 at *
            generalize (entP l id).2 = R2 at *
            clear h hb hd hN hR hf0 f1 fK dl es en B1 hg hf HDi dn
            generalize elementsP l (formP l id) = els at *
            generalize formP l id = fz at *
            go_enter Tryz.func16, Tryz.ntmps16
            go_upto_region 1 with fail
            have K1 : Hid (Bk ((w.alloc (.cells #[.slice p l.length c] 22)).alloc (.cells #[.int .i64 id] 3)) w.heap.size [.slice p l.length c] 22) := (Bk.new w _ _).below ((Below.refl _ _).alloc (Nat.le_refl _) _)
            have K2 : Hid (Bk ((w.alloc (.cells #[.slice p l.length c] 22)).alloc (.cells #[.int .i64 id] 3)) (w.heap.size + 1) [.int .i64 id] 3) := by
              have := Bk.new (w.alloc (.cells #[.slice p l.length c] 22)) [.int .i64 id] 3
              rw [World.size_alloc] at this
              exact this
            have BB : Hid (Below w.heap.size w ((w.alloc (.cells #[.slice p l.length c] 22)).alloc (.cells #[.int .i64 id] 3))) := ((Below.refl _ w).alloc (Nat.le_refl _) _).alloc (by simp) _
            generalize ((w.alloc (.cells #[.slice p l.length c] 22)).alloc (.cells #[.int .i64 id] 3)) = w0 at *
            generalize w.heap.size + 1 = n1 at *
            have x1 := K1.out.cell 0 rfl
            have x2 := K2.out.cell 0 rfl
            have BC := hide BB.out
            clear x1 x2
            have x1 := K1.out.cell 0 rfl
            have x2 := K2.out.cell 0 rfl
            go_wp2_with fail
            refine (HI.out _ BC.out).mono ?_
            rintro e wa ⟨rfl, bx⟩
            replace BC := hide (chain BC.out bx)
            replace K1 := hide (K1.out.below bx)
            replace K2 := hide (K2.out.below bx)
            clear bx
            clear x1 x2
            have x1 := K1.out.cell 0 rfl
            have x2 := K2.out.cell 0 rfl
            go_wp2_with fail
            refine (HB.out _ BC.out).mono ?_
            rintro e wb ⟨rfl, bx⟩
            replace BC := hide (chain BC.out bx)
            replace K1 := hide (K1.out.below bx)
            replace K2 := hide (K2.out.below bx)
            clear bx
            clear x1 x2
            have x1 := K1.out.cell 0 rfl
            have x2 := K2.out.cell 0 rfl
            go_wp2_with fail
            refine (HD.out _ BC.out).mono ?_
            rintro e wc ⟨rfl, bx⟩
            replace BC := hide (chain BC.out bx)
            replace K1 := hide (K1.out.below bx)
            replace K2 := hide (K2.out.below bx)
            clear bx
            clear x1 x2
            have x1 := K1.out.cell 0 rfl
            have x2 := K2.out.cell 0 rfl
            go_wp2_with fail
            refine (HFo.out _ BC.out).mono ?_
            rintro e wd ⟨rfl, bx⟩
            replace BC := hide (chain BC.out bx)
            replace K1 := hide (K1.out.below bx)
            replace K2 := hide (K2.out.below bx)
            clear bx
            clear x1 x2
            have x1 := K1.out.cell 0 rfl
            have x2 := K2.out.cell 0 rfl
            go_wp2_with fail
            refine (HDe.out _ BC.out).mono ?_
            rintro e wg ⟨rfl, bx⟩
            replace BC := hide (chain BC.out bx)
            replace K1 := hide (K1.out.below bx)
            replace K2 := hide (K2.out.below bx)
            clear bx
            clear x1 x2
            have x1 := K1.out.cell 0 rfl
            have x2 := K2.out.cell 0 rfl
            go_wp2_with fail
            refine (HEl.out _ BC.out).mono ?_
            rintro e we ⟨ve, rfl, IV, bx⟩
            replace BC := hide (chain BC.out bx)
            replace K1 := hide (K1.out.below bx)
            replace K2 := hide (K2.out.below bx)
            clear bx x1 x2
            have PM : PredM 61 #[.pointer (some ⟨n1, 0, none⟩), .pointer (some ⟨w.heap.size, 0, none⟩)] (anoB l id) els we := fun W x hx hb => by
              obtain ⟨q, rfl⟩ : ∃ q : Nat, x = (q : Int) := ⟨x.toNat, by have := EL.out.2 x hx; omega⟩
              exact HP.out _ _ q (by have := EL.out.2 _ hx; omega) W (chain BC.out hb) ((K2.out.below hb).cell 0 rfl) ((K1.out.below hb).cell 0 rfl)
            have HC := hide (containsFuncM_any ve els (anoB l id) 61 #[.pointer (some ⟨n1, 0, none⟩), .pointer (some ⟨w.heap.size, 0, none⟩)] entSbE1 we IV PM EL.out.1)
            obtain ⟨pe, ce, rfl, hxx⟩ := IV
            clear hxx PM EL HP
            generalize els.any (anoB l id) = an at *
            generalize els.length = ln at *
            go_wp2_with fail
            refine HC.out.mono ?_
            rintro e wf ⟨rfl, bx⟩
            replace BC := hide (chain BC.out bx)
            cases an with
            | true =>
              have E1 := hide RS.out.1
              have E2 := hide RS.out.2
              rw [if_pos rfl] at E1 E2
              clear RS
              go_wp2_with fail
              go_ret2
              exact ⟨ret_twoB E1.out.symm E2.out.symm, BC.out⟩
            | false =>
              have E1 := hide RS.out.1
              have E2 := hide RS.out.2
              rw [if_neg (by decide)] at E1 E2
              clear RS
              go_wp2_with fail
              go_ret2
              exact ⟨ret_twoB E1.out.symm E2.out.symm, BC.out⟩
end Go.Proofs.YtnojgejcmaajmaaGreatDoor

namespace Go.Proofs.YtnojgejcmaajmaaGreatDoor
open Go.RowKit
set_option maxRecDepth 100000
set_option maxHeartbeats 8000000 in
theorem submitEnters_walk (v : Value) (l : List Nd) (id : Int) (w : World) (hv : NodesV w v l) (hz : DocSz l) (hT : KTabs w ∧ SomeMax w) :
    Calls Tryz.prog 5 #[v, .int .i64 id] w fun e w' => e = .returned (.bool true) ∧ Below w.heap.size w w' := by
  have HW := hide (sbWakes_any w hT.2)
  have HC := hide (fun W (hb : Below w.heap.size w W) => refCopied_any v l W (hv.below hb) hz)
  have H1 := hide (fun u W (hb : Below w.heap.size w W) (hu : NodesV W u l) => sbEnter_any u l id W hu hz (hT.1.below hb))
  have R1 := hide (fun W (hb : Below w.heap.size w W) => refEnterS_any v l id W (hv.below hb) hz)
  generalize (entP l id).1 = X1 at *
  generalize (entP l id).2 = X2 at *
  obtain ⟨p, k, rfl⟩ : ∃ p k, v = .slice p l.length k := by obtain ⟨p, k, e, _⟩ := hv; exact ⟨p, k, e⟩
  clear hv hz hT
  go_enter Tryz.func5, Tryz.ntmps5
  go_wp2_with fail
  refine HW.out.mono ?_
  rintro e w1 ⟨rfl, b1⟩
  go_wp2_with fail
  refine (HC.out _ b1).mono ?_
  rintro e w2 ⟨v2, L2, rfl, o2, e2, b2⟩
  have N2 : Hid (NodesV w2 v2 l) := by show NodesV _ _ _; rw [← e2]; exact o2.nodes
  obtain ⟨p2, k2, rfl⟩ : ∃ p k, v2 = .slice p l.length k := by obtain ⟨p, k, e, _⟩ := N2.out; exact ⟨p, k, e⟩
  have B2 := hide (chain b1 b2)
  clear o2 e2 b2
  go_wp2_with fail
  refine (H1.out _ _ B2.out N2.out).mono ?_
  rintro e w3 ⟨rfl, b3⟩
  have B3 := hide (chain B2.out b3)
  have N3 := hide (N2.out.below b3)
  clear b3
  go_wp2_with fail
  refine (R1.out _ B3.out).mono ?_
  rintro e w4 ⟨rfl, b4⟩
  have B4 := hide (chain B3.out b4)
  have N4 := hide (N3.out.below b4)
  clear b4
  go_wp2_with fail
  go_ret
  exact ⟨rfl, B4.out⟩

end Go.Proofs.YtnojgejcmaajmaaGreatDoor
