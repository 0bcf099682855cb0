/- The document's Insert of layer 10, of what it does: 'insP'. Conditions: as in 'DocInsR'. -/
import Derived.Test.YtkloahpkjbohoaaDocInsR
import Derived.Deep.DeepCutAuto
namespace Go.Proofs.Ytkloahpkjbohoaa
open Go.RowKit

/-- The first children, gone through. -/
def putF (ks : List Int) (c b : Int) : List Int := ks.flatMap fun k => if k = b then [c, k] else [k]
theorem putF_take {ks : List Int} {k : Nat} (h : k < ks.length) (c b : Int) : putF (ks.take (k + 1)) c b = putF (ks.take k) c b ++ (if ks[k] = b then [c, ks[k]] else [ks[k]]) := by
  unfold putF
  rw [List.take_succ_eq_append_getElem h, List.flatMap_append, List.flatMap_singleton]
theorem putF_len (c b : Int) : ∀ ks : List Int, (putF ks c b).length ≤ 2 * ks.length
  | [] => Nat.le_refl _
  | k :: t => by
    have ih := putF_len c b t
    unfold putF at ih ⊢
    rw [List.flatMap_cons, List.length_append, List.length_cons]
    split
    · simp only [List.length_cons, List.length_nil]; omega
    · simp only [List.length_cons, List.length_nil]; omega
theorem putK_of (ks : List Int) (c b : Int) : putK ks c b = putF ks c b ++ (if b = -1 then [c] else []) := rfl
theorem cut_kids {l : List Nd} (h : Right l) {c p : Nat} (hc : c < l.length) (hp : p < l.length) : (nd (cutK l c) p).kids.length ≤ 400 := by
  have A := (right_texts h hp).2.2.2.2
  rw [← nd_at hp] at A
  unfold cutK
  by_cases q : (nd l c).parent < 0
  · rw [if_pos q]; exact A
  · rw [if_neg q]
    have hq : (nd l c).parent.toNat < l.length := by have := (h.par c hc).2; omega
    rw [nd_upd _ hq]
    by_cases r : p = (nd l c).parent.toNat
    · rw [if_pos r, ← r]
      exact Nat.le_trans (List.length_filter_le _ _) A
    · rw [if_neg r]; exact A

set_option maxHeartbeats 8000000 in
set_option maxRecDepth 100000 in
theorem refInsert_ok_rn (v : Value) (l : List Nd) (p c : Nat) (bf : Int) (w : World) (hv : NodesV w v l) (hz : DocSz l) (hR : Right l) (hp : p < l.length) (hc : c < l.length)
    (g1 : noName l[p].name = false) (g2 : ¬ c = 0) (g3 : (c : Int) ∉ anc l (p : Int)) (g5 : bf = -1) (g6 : l[c].parent = -1) :
    Calls Try.prog 17 #[v, .int .i64 (p : Int), .int .i64 (c : Int), .int .i64 bf] w fun e w' => ∃ v', e = .returned (.tuple #[v', .int .i64 0]) ∧ NodesV w' v' (insP l p c bf) ∧ Below w.heap.size w w' := by
  subst g5
  have HP := hide (fun W (hb : Below w.heap.size w W) => refHas_any v l (p : Int) W (hv.below hb) hz)
  have HC := hide (fun W (hb : Below w.heap.size w W) => refHas_any v l (c : Int) W (hv.below hb) hz)
  have e1 : hasN l (p : Int) = true := by unfold hasN; rw [decide_eq_true ⟨by omega, by omega⟩, right_is.2 hR]; rfl
  have e2 : hasN l (c : Int) = true := by unfold hasN; rw [decide_eq_true ⟨by omega, by omega⟩, right_is.2 hR]; rfl
  rw [e1] at HP
  rw [e2] at HC
  have HU := hide (fun W (hb : Below w.heap.size w W) => refWithin_any v l (p : Int) p (c : Int) W (hv.below hb) ⟨hR, rfl, hp⟩)
  have n1 := noName_size' g1
  have n2 : ¬ (l[p].name.size : Int) = 0 := by omega
  have n3 : ((l[p].name.size : Int) == 0) = false := by rw [beq_eq_false_iff_ne]; exact n2
  have f0 : ((c : Int) == 0) = false := by rw [beq_eq_false_iff_ne]; omega
  have g31 : ¬ c = p := fun t => g3 ((anc_within hR hp).2 (.inl t))
  have f9 : ((c : Int) == (p : Int)) = false := by rw [beq_eq_false_iff_ne]; omega
  have hw0 : withinB l (p : Int) (c : Int) = false := by
    cases q : withinB l (p : Int) (c : Int) with
    | false => rfl
    | true => exact absurd ((anc_within hR hp).2 (.inr q)) g3
  rw [hw0] at HU
  have KL : Hid (l[p].kids.length ≤ 17592186044416) := Nat.le_trans (right_texts hR hp).2.2.2.2 (by omega)
  have HCo := hide (fun W (hb : Below w.heap.size w W) => refCopied_any v l W (hv.below hb) hz)
  obtain ⟨pp, cc, rfl, hv⟩ := hv
  rcases hv with hv | ⟨b, o, rfl, hv⟩
  · rw [hv] at hp; simp at hp
  obtain ⟨va, vk, N0⟩ := hv p hp
  have NW : Hid (∀ W, Below w.heap.size w W → NodeAt W b (o + p * 5) l[p] va vk) := fun W hb => N0.below hb
  have i0 : (0 : Int) ≤ (p : Int) := by omega
  have i1 : (p : Int) < (l.length : Int) := by omega
  have hlen := hR.len.2
  have HR := hide hR
  have j3 : (0 : Int) ≤ (c : Int) := by omega
  obtain ⟨iI, hI0, hI1, hI2, hI3⟩ := info_parts infoI
  have g5 : (-1 : Int) = -1 := rfl
  have G5 := hide g5
  have G6 := hide g6
  clear hv N0 e1 e2 hz hw0 g31 g3 g1 g5 g6
  go_enter Try.func17, Try.ntmps17
  go_wp2_with fail
  refine (HP.out _ (Below.refl _ _)).mono ?_
  rintro e w1 ⟨rfl, b1⟩
  go_wp2_with fail
  refine (HC.out _ b1).mono ?_
  rintro e w2 ⟨rfl, b2⟩
  have B2 := hide (chain b1 b2)
  have a0 := (NW.out w2 B2.out).name
  clear b1 b2
  go_wp2_with fail
  refine (HU.out _ B2.out).mono ?_
  rintro e w4 ⟨rfl, hw⟩
  obtain rfl : w2 = w4 := hw.symm
  go_wp2_with fail
  refine (HCo.out _ B2.out).mono ?_
  rintro e w7 ⟨v5, L1, rfl, o5, l5, b5⟩
  have B7 := hide (chain B2.out b5)
  have LL : L1.length = l.length := by rw [← ndsOf_len, l5]
  have O7 := hide (OwnD.mono o5 B2.out.size)
  have hcL : c < L1.length := by omega
  obtain ⟨G, cp, ev, eb, ge, gl, _⟩ := owns_at O7.out.row (by omega)
  have NC : Hid (l[c] = L1[c].n) := by show _ = _; rw [← nd_at hc, ← l5]; exact ndsOf_at hcL
  have L5 := hide l5
  have EB := hide eb
  have LL1 := hide LL
  have p3 := (O7.out.nodeAt eb hcL).parent
  have jc : (c : Int) < (L1.length : Int) := by omega
  rw [← NC.out, G6.out] at p3
  clear o5 l5 b5 a0 HP HC HU HCo eb
  subst ev
  have LE : Hid (ndsOf L1 = cutK l c) := by
    show _ = _
    rw [L5.out]
    unfold cutK
    rw [nd_at hc, G6.out, if_pos (by omega)]
  clear LL L5 NC
  go_upto_region 11 with fail
  have hp7 : p < L1.length := by rw [LL1.out]; exact hp
  have hc7 : c < L1.length := by rw [LL1.out]; exact hc
  have c4 := (O7.out.nodeAt EB.out hp7).kids
  have c3 := (O7.out.nodeAt EB.out hc7).parent
  have KO : Hid (KidsO w.heap.size w7 L1[p].k L1[p].n.kids) := O7.out.ks L1[p] (List.getElem_mem hp7)
  have KL7 : Hid (L1[p].n.kids.length ≤ 400) := by
    have t := cut_kids HR.out hc hp
    rw [← LE.out, ndsOf_at hp7] at t
    exact t
  obtain ⟨qk, ck, ek, _⟩ := KO.out.ints
  have EK := hide ek
  rw [ek] at c4
  clear ek
  obtain ⟨ks, HKS⟩ : ∃ ks, Hid (L1[p].n.kids = ks) := ⟨_, show _ = _ from rfl⟩
  rw [HKS.out] at c4 KO KL7 EK
  have kl := KL7.out
  have j1 : (p : Int) < (L1.length : Int) := by omega
  have j2 : (c : Int) < (L1.length : Int) := by omega
  go_wp2_with fail
  go_loopw [12, 13] (fun ov iv wr => ∃ k : Nat, k ≤ ks.length ∧ iv = .int .i64 k ∧ Hid (KidsO w7.heap.size wr ov (putF (ks.take k) (c : Int) (-1 : Int))) ∧ Hid (Below w7.heap.size w7 wr)) (fun _ iv _ => ks.length - (intOf iv).toNat)
  case atStart => exact ⟨0, Nat.zero_le _, rfl, World.ownsRow_nil _ _ _ _, Below.refl _ _⟩
  case round =>
    rename World => wr
    obtain ⟨k, hk, rfl, OU, BB⟩ := hrel
    have d4 := cell_below c4 BB.out
    have d3 := cell_below c3 BB.out
    have WL : Hid (w7.heap.size ≤ wr.heap.size) := BB.out.size
    by_cases h : k < ks.length
    · have k1 : (k : Int) < (ks.length : Int) := by omega
      have k0 : (0 : Int) ≤ (k : Int) := by omega
      obtain ⟨ga, cpa, ea2, eab, ga0, ga1, _⟩ := owns_at KO.out (by omega)
      obtain ⟨rfl, rfl⟩ : qk = some ⟨ga, 0, none⟩ ∧ ck = cpa := by rw [EK.out] at ea2; cases ea2; exact ⟨rfl, rfl⟩
      have x7 := owns_cell KO.out eab (cellsI_at h)
      have x0 := cell_below x7 BB.out
      have UT := hide (putF_take h (c : Int) (-1 : Int))
      have UL : Hid ((putF (ks.take k) (c : Int) (-1 : Int)).length ≤ 2 * k) := Nat.le_trans (putF_len _ _ _) (by rw [List.length_take]; omega)
      clear ea2 eab c3 d3
      obtain ⟨y, hy⟩ : ∃ y, Hid (ks[k] = y) := ⟨_, show _ = _ from rfl⟩
      rw [hy.out] at x0 x7 UT
      have ul := UL.out
      by_cases q : y = (-1 : Int)
      · have tb : (y == (-1 : Int)) = true := by rw [q]; exact beq_self_eq_true (-1 : Int)
        rw [if_pos q] at UT
        clear q
        have CB : Hid (Chg [] wr (wr.alloc (.cells #[.int .i64 (c : Int)] 3))) := Chg.alloc _ _
        have OW := hide (owns_kept OU.out CB.out (fun _ _ q => by cases q))
        have R6 := hide ((NB.new wr [.int .i64 (c : Int)] 3).raw 1 1 rfl 1)
        have W6 : Hid (w7.heap.size ≤ (wr.alloc (.cells #[.int .i64 (c : Int)] 3)).heap.size) := Nat.le_trans WL.out CB.out.size
        go_wp2_with (first | (at_builtin; refine wpList_append_raw rfl _ _ _ rfl w7.heap.size 3 iI _ 1 8 Try.underlying43 hI0 hI1 hI2 hI3 rfl (by omega) _ (putF (ks.take k) (c : Int) (-1 : Int)).length (cellsI (putF (ks.take k) (c : Int) (-1 : Int))) rfl OW.out (.slice (some ⟨wr.heap.size, 0, none⟩) 1 1) 1 [.int .i64 (c : Int)] rfl R6.out (by simp [Value.oneCell']) (by unfold maxLen; omega) (by omega) W6.out ?_; intro q6 c6 w6 own6 gr6 at6; have B6 : Hid (Below w7.heap.size w7 w6) := BB.out.trans (Chg.below (CB.out.nil.trans (Chg.of_grown gr6)) WL.out (fun k q => (World.ownsRow.lt OU.out k (opt_mem.1 q)).1)); have y4 := cell_below c4 B6.out; have y0 := cell_below x7 B6.out; have O6 : Hid (KidsO w7.heap.size w6 (.slice q6 ((putF (ks.take k) (c : Int) (-1 : Int)).length + 1) c6) (putF (ks.take k) (c : Int) (-1 : Int) ++ [(c : Int)])) := (by show KidsO _ _ _ _; unfold KidsO; rw [List.length_append, cellsI_app]; exact own6); have CC : Hid (Chg [] w6 (w6.alloc (.cells #[.int .i64 y] 3))) := Chg.alloc _ _; have OX := hide (owns_kept O6.out CC.out (fun _ _ q => by cases q)); have R7 := hide ((NB.new w6 [.int .i64 y] 3).raw 1 1 rfl 1); have W7 : Hid (w7.heap.size ≤ (w6.alloc (.cells #[.int .i64 y] 3)).heap.size) := Nat.le_trans B6.out.size CC.out.size; have G6 := hide gr6; have A6 := hide at6; have N6 := hide own6; clear gr6 at6 own6 d4 x0) | (at_builtin; refine wpList_append_raw rfl _ _ _ rfl w7.heap.size 3 iI _ 1 8 Try.underlying43 hI0 hI1 hI2 hI3 rfl (by omega) _ ((putF (ks.take k) (c : Int) (-1 : Int)).length + 1) (cellsI ((putF (ks.take k) (c : Int) (-1 : Int)) ++ [(c : Int)])) rfl (by have t := OX.out; rw [List.length_append] at t; exact t) (.slice (some ⟨w6.heap.size, 0, none⟩) 1 1) 1 [.int .i64 y] rfl R7.out (by simp [Value.oneCell']) (by unfold maxLen; omega) (by omega) W7.out ?_; intro q8 c8 w8 own8 gr8 at8))
        go_roundw
        case rel =>
          refine ⟨k + 1, by omega, by go_num, ?_, ?_⟩
          · show KidsO _ _ _ _
            rw [UT.out, show ([(c : Int), y] : List Int) = [(c : Int)] ++ [y] from rfl, ← List.append_assoc]
            unfold KidsO
            rw [List.length_append, List.length_append, cellsI_app]
            exact own8
          · exact B6.out.trans (Chg.below (CC.out.nil.trans (Chg.of_grown gr8)) B6.out.size (fun k q => (World.ownsRow.lt O6.out k (opt_mem.1 q)).1))
        case measure => simp [intOf]; omega
      · have tb : (y == (-1 : Int)) = false := by rw [beq_eq_false_iff_ne]; exact q
        rw [if_neg q] at UT
        clear q
        have CB : Hid (Chg [] wr (wr.alloc (.cells #[.int .i64 y] 3))) := Chg.alloc _ _
        have OW := hide (owns_kept OU.out CB.out (fun _ _ q => by cases q))
        have R6 := hide ((NB.new wr [.int .i64 y] 3).raw 1 1 rfl 1)
        have W6 : Hid (w7.heap.size ≤ (wr.alloc (.cells #[.int .i64 y] 3)).heap.size) := Nat.le_trans WL.out CB.out.size
        go_wp2_with (at_builtin; refine wpList_append_raw rfl _ _ _ rfl w7.heap.size 3 iI _ 1 8 Try.underlying43 hI0 hI1 hI2 hI3 rfl (by omega) _ (putF (ks.take k) (c : Int) (-1 : Int)).length (cellsI (putF (ks.take k) (c : Int) (-1 : Int))) rfl OW.out (.slice (some ⟨wr.heap.size, 0, none⟩) 1 1) 1 [.int .i64 y] rfl R6.out (by simp [Value.oneCell']) (by unfold maxLen; omega) (by omega) W6.out ?_; intro q6 c6 w6 own6 gr6 at6)
        go_roundw
        case rel =>
          refine ⟨k + 1, by omega, by go_num, ?_, ?_⟩
          · show KidsO _ _ _ _
            rw [UT.out]
            unfold KidsO
            rw [List.length_append, cellsI_app]
            exact own6
          · exact BB.out.trans (Chg.below (CB.out.nil.trans (Chg.of_grown gr6)) BB.out.size (fun k q => (World.ownsRow.lt OU.out k (opt_mem.1 q)).1))
        case measure => simp [intOf]; omega
    · obtain rfl : k = ks.length := by omega
      have OF : Hid (KidsO w7.heap.size wr u12 (putF ks (c : Int) (-1 : Int))) := by have := OU.out; rw [List.take_length] at this; exact this
      clear h OU
      obtain ⟨qu, cu, eu, _⟩ := OF.out.ints
      subst eu
      have FZ : Hid (∀ W, Below w7.heap.size w7 W → ∀ j, W.frozen? ⟨G, j, none⟩ = false) := fun W hb j => (hb.frozen (p := ⟨G, j, none⟩) (O7.out.row.lt G EB.out).2).trans (owns_free O7.out.row EB.out j)
      have PK : Hid (putK ks (c : Int) (-1 : Int) = putF ks (c : Int) (-1 : Int) ++ [(c : Int)]) := by show _ = _; rw [putK_of]; rfl
      have UL : (putF ks (c : Int) (-1 : Int)).length ≤ 2 * ks.length := putF_len _ _ _
      have CB : Hid (Chg [] wr (wr.alloc (.cells #[.int .i64 (c : Int)] 3))) := Chg.alloc _ _
      have OW := hide (owns_kept OF.out CB.out (fun _ _ q => by cases q))
      have R6 := hide ((NB.new wr [.int .i64 (c : Int)] 3).raw 1 1 rfl 1)
      have W6 : Hid (w7.heap.size ≤ (wr.alloc (.cells #[.int .i64 (c : Int)] 3)).heap.size) := Nat.le_trans WL.out CB.out.size
      go_wp2_with (at_builtin; refine wpList_append_raw rfl _ _ _ rfl w7.heap.size 3 iI _ 1 8 Try.underlying43 hI0 hI1 hI2 hI3 rfl (by omega) _ (putF ks (c : Int) (-1 : Int)).length (cellsI (putF ks (c : Int) (-1 : Int))) rfl OW.out (.slice (some ⟨wr.heap.size, 0, none⟩) 1 1) 1 [.int .i64 (c : Int)] rfl R6.out (by simp [Value.oneCell']) (by unfold maxLen; omega) (by omega) W6.out ?_; intro q6 c6 w6 own6 gr6 at6; have B6 : Hid (Below w7.heap.size w7 w6) := BB.out.trans (Chg.below (CB.out.nil.trans (Chg.of_grown gr6)) WL.out (fun k q => (World.ownsRow.lt OF.out k (opt_mem.1 q)).1)); have y4 := cell_below c4 B6.out; have y3 := cell_below c3 B6.out; have z4 := FZ.out w6 B6.out (p * 5 + 4); have z3 := FZ.out w6 B6.out (c * 5 + 3); have O6 : Hid (KidsO w7.heap.size w6 (.slice q6 ((putF ks (c : Int) (-1 : Int)).length + 1) c6) (putK ks (c : Int) (-1 : Int))) := (by show KidsO _ _ _ _; unfold KidsO; rw [PK.out, List.length_append, cellsI_app]; exact own6); have G6 := hide gr6; have A6 := hide at6; have N6 := hide own6; clear gr6 at6 own6 d4 d3)
      go_ret2
      have D1 := OwnD.putK O7.out EB.out hp7 (w1 := w6) (Chg.of_below B6.out).nil (owns_mono O6.out B7.out.size) (.inr (fun k hk => (World.ownsRow.lt O6.out k hk).1))
      have hc2 : c < (L1.set p ⟨{ L1[p].n with kids := putK ks (c : Int) (-1 : Int) }, L1[p].a, .slice q6 ((putF ks (c : Int) (-1 : Int)).length + 1) c6⟩).length := by rw [List.length_set]; exact hc7
      have D2 := OwnD.putP D1 EB.out hc2 (p : Int)
      have N2 := D2.nodes
      rw [ndsOf_set, ← ndsOf_at hc2, ndsOf_set] at N2
      have E : insP l p c (-1 : Int) = ((ndsOf L1).set p { L1[p].n with kids := putK ks (c : Int) (-1 : Int) }).set c { nd ((ndsOf L1).set p { L1[p].n with kids := putK ks (c : Int) (-1 : Int) }) c with parent := (p : Int) } := by
        unfold insP upd
        rw [← LE.out, ndsOf_at hp7]
        simp only [HKS.out]
      rw [← E] at N2
      have CG : ∀ (W : World) (j : Nat) (u : Value), Chg [G] W (W.setCell ⟨G, j, none⟩ u) := fun W j u => Chg.setB W G j u
      exact ⟨_, rfl, N2, B7.out.trans (Chg.below (((Chg.of_below B6.out).nil.trans (CG _ _ _)).trans (CG _ _ _)) B7.out.size (fun k q => by rw [List.mem_singleton.1 q]; exact ge))⟩

set_option maxHeartbeats 8000000 in
set_option maxRecDepth 100000 in
theorem refInsert_ok_rb (v : Value) (l : List Nd) (p c : Nat) (bf : Int) (w : World) (hv : NodesV w v l) (hz : DocSz l) (hR : Right l) (hp : p < l.length) (hc : c < l.length)
    (g1 : noName l[p].name = false) (g2 : ¬ c = 0) (g3 : (c : Int) ∉ anc l (p : Int)) (g5 : ¬ bf = -1 ∧ ¬ bf = (c : Int) ∧ bf ∈ l[p].kids) (g6 : l[c].parent = -1) :
    Calls Try.prog 17 #[v, .int .i64 (p : Int), .int .i64 (c : Int), .int .i64 bf] w fun e w' => ∃ v', e = .returned (.tuple #[v', .int .i64 0]) ∧ NodesV w' v' (insP l p c bf) ∧ Below w.heap.size w w' := by
  have HP := hide (fun W (hb : Below w.heap.size w W) => refHas_any v l (p : Int) W (hv.below hb) hz)
  have HC := hide (fun W (hb : Below w.heap.size w W) => refHas_any v l (c : Int) W (hv.below hb) hz)
  have e1 : hasN l (p : Int) = true := by unfold hasN; rw [decide_eq_true ⟨by omega, by omega⟩, right_is.2 hR]; rfl
  have e2 : hasN l (c : Int) = true := by unfold hasN; rw [decide_eq_true ⟨by omega, by omega⟩, right_is.2 hR]; rfl
  rw [e1] at HP
  rw [e2] at HC
  have HU := hide (fun W (hb : Below w.heap.size w W) => refWithin_any v l (p : Int) p (c : Int) W (hv.below hb) ⟨hR, rfl, hp⟩)
  have n1 := noName_size' g1
  have n2 : ¬ (l[p].name.size : Int) = 0 := by omega
  have n3 : ((l[p].name.size : Int) == 0) = false := by rw [beq_eq_false_iff_ne]; exact n2
  have f0 : ((c : Int) == 0) = false := by rw [beq_eq_false_iff_ne]; omega
  have g31 : ¬ c = p := fun t => g3 ((anc_within hR hp).2 (.inl t))
  have f9 : ((c : Int) == (p : Int)) = false := by rw [beq_eq_false_iff_ne]; omega
  have hw0 : withinB l (p : Int) (c : Int) = false := by
    cases q : withinB l (p : Int) (c : Int) with
    | false => rfl
    | true => exact absurd ((anc_within hR hp).2 (.inr q)) g3
  rw [hw0] at HU
  have KL : Hid (l[p].kids.length ≤ 17592186044416) := Nat.le_trans (right_texts hR hp).2.2.2.2 (by omega)
  have HCo := hide (fun W (hb : Below w.heap.size w W) => refCopied_any v l W (hv.below hb) hz)
  obtain ⟨pp, cc, rfl, hv⟩ := hv
  rcases hv with hv | ⟨b, o, rfl, hv⟩
  · rw [hv] at hp; simp at hp
  obtain ⟨va, vk, N0⟩ := hv p hp
  have NW : Hid (∀ W, Below w.heap.size w W → NodeAt W b (o + p * 5) l[p] va vk) := fun W hb => N0.below hb
  have i0 : (0 : Int) ≤ (p : Int) := by omega
  have i1 : (p : Int) < (l.length : Int) := by omega
  have hlen := hR.len.2
  have HR := hide hR
  have j3 : (0 : Int) ≤ (c : Int) := by omega
  obtain ⟨iI, hI0, hI1, hI2, hI3⟩ := info_parts infoI
  have fb : (bf == -1) = false := by rw [beq_eq_false_iff_ne]; exact g5.1
  have fb2 : ¬ bf = -1 := g5.1
  have fc2 : ¬ bf = (c : Int) := g5.2.1
  have fc : (bf == (c : Int)) = false := by rw [beq_eq_false_iff_ne]; exact g5.2.1
  obtain ⟨nc, hnc⟩ : ∃ nc, Hid (cntI l[p].kids bf = nc) := ⟨_, show _ = _ from rfl⟩
  have ncp : 0 < nc := by rw [← hnc.out]; exact cnt_pos.1 g5.2.2
  have ncb : ((nc : Int) == 0) = false := by rw [beq_eq_false_iff_ne]; omega
  have G5 := hide g5
  have G6 := hide g6
  clear hv N0 e1 e2 hz hw0 g31 g3 g1 g5 g6
  go_enter Try.func17, Try.ntmps17
  go_wp2_with fail
  refine (HP.out _ (Below.refl _ _)).mono ?_
  rintro e w1 ⟨rfl, b1⟩
  go_wp2_with fail
  refine (HC.out _ b1).mono ?_
  rintro e w2 ⟨rfl, b2⟩
  have B2 := hide (chain b1 b2)
  have a0 := (NW.out w2 B2.out).name
  clear b1 b2
  go_wp2_with fail
  refine (HU.out _ B2.out).mono ?_
  rintro e w4 ⟨rfl, hw⟩
  obtain rfl : w2 = w4 := hw.symm
  have a4 := (NW.out w2 B2.out).kids
  have HK := hide (refCount_any vk l[p].kids bf w2 (NW.out w2 B2.out).ks KL.out)
  rw [hnc.out] at HK
  go_wp2_with fail
  refine HK.out.mono ?_
  rintro e w5 ⟨rfl, hw⟩
  obtain rfl : w2 = w5 := hw.symm
  clear a4
  go_wp2_with fail
  refine (HCo.out _ B2.out).mono ?_
  rintro e w7 ⟨v5, L1, rfl, o5, l5, b5⟩
  have B7 := hide (chain B2.out b5)
  have LL : L1.length = l.length := by rw [← ndsOf_len, l5]
  have O7 := hide (OwnD.mono o5 B2.out.size)
  have hcL : c < L1.length := by omega
  obtain ⟨G, cp, ev, eb, ge, gl, _⟩ := owns_at O7.out.row (by omega)
  have NC : Hid (l[c] = L1[c].n) := by show _ = _; rw [← nd_at hc, ← l5]; exact ndsOf_at hcL
  have L5 := hide l5
  have EB := hide eb
  have LL1 := hide LL
  have p3 := (O7.out.nodeAt eb hcL).parent
  have jc : (c : Int) < (L1.length : Int) := by omega
  rw [← NC.out, G6.out] at p3
  clear o5 l5 b5 a0 HP HC HU HCo eb
  subst ev
  have LE : Hid (ndsOf L1 = cutK l c) := by
    show _ = _
    rw [L5.out]
    unfold cutK
    rw [nd_at hc, G6.out, if_pos (by omega)]
  clear LL L5 NC
  go_upto_region 11 with fail
  have hp7 : p < L1.length := by rw [LL1.out]; exact hp
  have hc7 : c < L1.length := by rw [LL1.out]; exact hc
  have c4 := (O7.out.nodeAt EB.out hp7).kids
  have c3 := (O7.out.nodeAt EB.out hc7).parent
  have KO : Hid (KidsO w.heap.size w7 L1[p].k L1[p].n.kids) := O7.out.ks L1[p] (List.getElem_mem hp7)
  have KL7 : Hid (L1[p].n.kids.length ≤ 400) := by
    have t := cut_kids HR.out hc hp
    rw [← LE.out, ndsOf_at hp7] at t
    exact t
  obtain ⟨qk, ck, ek, _⟩ := KO.out.ints
  have EK := hide ek
  rw [ek] at c4
  clear ek
  obtain ⟨ks, HKS⟩ : ∃ ks, Hid (L1[p].n.kids = ks) := ⟨_, show _ = _ from rfl⟩
  rw [HKS.out] at c4 KO KL7 EK
  have kl := KL7.out
  have j1 : (p : Int) < (L1.length : Int) := by omega
  have j2 : (c : Int) < (L1.length : Int) := by omega
  go_wp2_with fail
  go_loopw [12, 13] (fun ov iv wr => ∃ k : Nat, k ≤ ks.length ∧ iv = .int .i64 k ∧ Hid (KidsO w7.heap.size wr ov (putF (ks.take k) (c : Int) bf)) ∧ Hid (Below w7.heap.size w7 wr)) (fun _ iv _ => ks.length - (intOf iv).toNat)
  case atStart => exact ⟨0, Nat.zero_le _, rfl, World.ownsRow_nil _ _ _ _, Below.refl _ _⟩
  case round =>
    rename World => wr
    obtain ⟨k, hk, rfl, OU, BB⟩ := hrel
    have d4 := cell_below c4 BB.out
    have d3 := cell_below c3 BB.out
    have WL : Hid (w7.heap.size ≤ wr.heap.size) := BB.out.size
    by_cases h : k < ks.length
    · have k1 : (k : Int) < (ks.length : Int) := by omega
      have k0 : (0 : Int) ≤ (k : Int) := by omega
      obtain ⟨ga, cpa, ea2, eab, ga0, ga1, _⟩ := owns_at KO.out (by omega)
      obtain ⟨rfl, rfl⟩ : qk = some ⟨ga, 0, none⟩ ∧ ck = cpa := by rw [EK.out] at ea2; cases ea2; exact ⟨rfl, rfl⟩
      have x7 := owns_cell KO.out eab (cellsI_at h)
      have x0 := cell_below x7 BB.out
      have UT := hide (putF_take h (c : Int) bf)
      have UL : Hid ((putF (ks.take k) (c : Int) bf).length ≤ 2 * k) := Nat.le_trans (putF_len _ _ _) (by rw [List.length_take]; omega)
      clear ea2 eab c3 d3
      obtain ⟨y, hy⟩ : ∃ y, Hid (ks[k] = y) := ⟨_, show _ = _ from rfl⟩
      rw [hy.out] at x0 x7 UT
      have ul := UL.out
      by_cases q : y = bf
      · have tb : (y == bf) = true := by rw [q]; exact beq_self_eq_true bf
        rw [if_pos q] at UT
        clear q
        have CB : Hid (Chg [] wr (wr.alloc (.cells #[.int .i64 (c : Int)] 3))) := Chg.alloc _ _
        have OW := hide (owns_kept OU.out CB.out (fun _ _ q => by cases q))
        have R6 := hide ((NB.new wr [.int .i64 (c : Int)] 3).raw 1 1 rfl 1)
        have W6 : Hid (w7.heap.size ≤ (wr.alloc (.cells #[.int .i64 (c : Int)] 3)).heap.size) := Nat.le_trans WL.out CB.out.size
        go_wp2_with (first | (at_builtin; refine wpList_append_raw rfl _ _ _ rfl w7.heap.size 3 iI _ 1 8 Try.underlying43 hI0 hI1 hI2 hI3 rfl (by omega) _ (putF (ks.take k) (c : Int) bf).length (cellsI (putF (ks.take k) (c : Int) bf)) rfl OW.out (.slice (some ⟨wr.heap.size, 0, none⟩) 1 1) 1 [.int .i64 (c : Int)] rfl R6.out (by simp [Value.oneCell']) (by unfold maxLen; omega) (by omega) W6.out ?_; intro q6 c6 w6 own6 gr6 at6; have B6 : Hid (Below w7.heap.size w7 w6) := BB.out.trans (Chg.below (CB.out.nil.trans (Chg.of_grown gr6)) WL.out (fun k q => (World.ownsRow.lt OU.out k (opt_mem.1 q)).1)); have y4 := cell_below c4 B6.out; have y0 := cell_below x7 B6.out; have O6 : Hid (KidsO w7.heap.size w6 (.slice q6 ((putF (ks.take k) (c : Int) bf).length + 1) c6) (putF (ks.take k) (c : Int) bf ++ [(c : Int)])) := (by show KidsO _ _ _ _; unfold KidsO; rw [List.length_append, cellsI_app]; exact own6); have CC : Hid (Chg [] w6 (w6.alloc (.cells #[.int .i64 y] 3))) := Chg.alloc _ _; have OX := hide (owns_kept O6.out CC.out (fun _ _ q => by cases q)); have R7 := hide ((NB.new w6 [.int .i64 y] 3).raw 1 1 rfl 1); have W7 : Hid (w7.heap.size ≤ (w6.alloc (.cells #[.int .i64 y] 3)).heap.size) := Nat.le_trans B6.out.size CC.out.size; have G6 := hide gr6; have A6 := hide at6; have N6 := hide own6; clear gr6 at6 own6 d4 x0) | (at_builtin; refine wpList_append_raw rfl _ _ _ rfl w7.heap.size 3 iI _ 1 8 Try.underlying43 hI0 hI1 hI2 hI3 rfl (by omega) _ ((putF (ks.take k) (c : Int) bf).length + 1) (cellsI ((putF (ks.take k) (c : Int) bf) ++ [(c : Int)])) rfl (by have t := OX.out; rw [List.length_append] at t; exact t) (.slice (some ⟨w6.heap.size, 0, none⟩) 1 1) 1 [.int .i64 y] rfl R7.out (by simp [Value.oneCell']) (by unfold maxLen; omega) (by omega) W7.out ?_; intro q8 c8 w8 own8 gr8 at8))
        go_roundw
        case rel =>
          refine ⟨k + 1, by omega, by go_num, ?_, ?_⟩
          · show KidsO _ _ _ _
            rw [UT.out, show ([(c : Int), y] : List Int) = [(c : Int)] ++ [y] from rfl, ← List.append_assoc]
            unfold KidsO
            rw [List.length_append, List.length_append, cellsI_app]
            exact own8
          · exact B6.out.trans (Chg.below (CC.out.nil.trans (Chg.of_grown gr8)) B6.out.size (fun k q => (World.ownsRow.lt O6.out k (opt_mem.1 q)).1))
        case measure => simp [intOf]; omega
      · have tb : (y == bf) = false := by rw [beq_eq_false_iff_ne]; exact q
        rw [if_neg q] at UT
        clear q
        have CB : Hid (Chg [] wr (wr.alloc (.cells #[.int .i64 y] 3))) := Chg.alloc _ _
        have OW := hide (owns_kept OU.out CB.out (fun _ _ q => by cases q))
        have R6 := hide ((NB.new wr [.int .i64 y] 3).raw 1 1 rfl 1)
        have W6 : Hid (w7.heap.size ≤ (wr.alloc (.cells #[.int .i64 y] 3)).heap.size) := Nat.le_trans WL.out CB.out.size
        go_wp2_with (at_builtin; refine wpList_append_raw rfl _ _ _ rfl w7.heap.size 3 iI _ 1 8 Try.underlying43 hI0 hI1 hI2 hI3 rfl (by omega) _ (putF (ks.take k) (c : Int) bf).length (cellsI (putF (ks.take k) (c : Int) bf)) rfl OW.out (.slice (some ⟨wr.heap.size, 0, none⟩) 1 1) 1 [.int .i64 y] rfl R6.out (by simp [Value.oneCell']) (by unfold maxLen; omega) (by omega) W6.out ?_; intro q6 c6 w6 own6 gr6 at6)
        go_roundw
        case rel =>
          refine ⟨k + 1, by omega, by go_num, ?_, ?_⟩
          · show KidsO _ _ _ _
            rw [UT.out]
            unfold KidsO
            rw [List.length_append, cellsI_app]
            exact own6
          · exact BB.out.trans (Chg.below (CB.out.nil.trans (Chg.of_grown gr6)) BB.out.size (fun k q => (World.ownsRow.lt OU.out k (opt_mem.1 q)).1))
        case measure => simp [intOf]; omega
    · obtain rfl : k = ks.length := by omega
      have OF : Hid (KidsO w7.heap.size wr u12 (putF ks (c : Int) bf)) := by have := OU.out; rw [List.take_length] at this; exact this
      clear h OU
      obtain ⟨qu, cu, eu, _⟩ := OF.out.ints
      subst eu
      have FZ : Hid (∀ W, Below w7.heap.size w7 W → ∀ j, W.frozen? ⟨G, j, none⟩ = false) := fun W hb j => (hb.frozen (p := ⟨G, j, none⟩) (O7.out.row.lt G EB.out).2).trans (owns_free O7.out.row EB.out j)
      have f1 : (bf == -1) = false := by rw [beq_eq_false_iff_ne]; exact G5.out.1
      have PK : Hid (putK ks (c : Int) bf = putF ks (c : Int) bf) := by show _ = _; rw [putK_of, if_neg G5.out.1, List.append_nil]
      have O6 : Hid (KidsO w7.heap.size wr (.slice qu (putF ks (c : Int) bf).length cu) (putK ks (c : Int) bf)) := by show KidsO _ _ _ _; rw [PK.out]; exact OF.out
      have B6 := BB
      have z4 := FZ.out wr B6.out (p * 5 + 4)
      have z3 := FZ.out wr B6.out (c * 5 + 3)
      go_wp2_with fail
      go_ret2
      have D1 := OwnD.putK O7.out EB.out hp7 (w1 := wr) (Chg.of_below B6.out).nil (owns_mono O6.out B7.out.size) (.inr (fun k hk => (World.ownsRow.lt O6.out k hk).1))
      have hc2 : c < (L1.set p ⟨{ L1[p].n with kids := putK ks (c : Int) bf }, L1[p].a, .slice qu (putF ks (c : Int) bf).length cu⟩).length := by rw [List.length_set]; exact hc7
      have D2 := OwnD.putP D1 EB.out hc2 (p : Int)
      have N2 := D2.nodes
      rw [ndsOf_set, ← ndsOf_at hc2, ndsOf_set] at N2
      have E : insP l p c bf = ((ndsOf L1).set p { L1[p].n with kids := putK ks (c : Int) bf }).set c { nd ((ndsOf L1).set p { L1[p].n with kids := putK ks (c : Int) bf }) c with parent := (p : Int) } := by
        unfold insP upd
        rw [← LE.out, ndsOf_at hp7]
        simp only [HKS.out]
      rw [← E] at N2
      have CG : ∀ (W : World) (j : Nat) (u : Value), Chg [G] W (W.setCell ⟨G, j, none⟩ u) := fun W j u => Chg.setB W G j u
      exact ⟨_, rfl, N2, B7.out.trans (Chg.below (((Chg.of_below B6.out).nil.trans (CG _ _ _)).trans (CG _ _ _)) B7.out.size (fun k q => by rw [List.mem_singleton.1 q]; exact ge))⟩

set_option maxHeartbeats 8000000 in
set_option maxRecDepth 100000 in
theorem refInsert_ok_kn (v : Value) (l : List Nd) (p c : Nat) (bf : Int) (w : World) (hv : NodesV w v l) (hz : DocSz l) (hR : Right l) (hp : p < l.length) (hc : c < l.length)
    (g1 : noName l[p].name = false) (g2 : ¬ c = 0) (g3 : (c : Int) ∉ anc l (p : Int)) (g5 : bf = -1) (g6 : ¬ l[c].parent = -1) :
    Calls Try.prog 17 #[v, .int .i64 (p : Int), .int .i64 (c : Int), .int .i64 bf] w fun e w' => ∃ v', e = .returned (.tuple #[v', .int .i64 0]) ∧ NodesV w' v' (insP l p c bf) ∧ Below w.heap.size w w' := by
  subst g5
  have HP := hide (fun W (hb : Below w.heap.size w W) => refHas_any v l (p : Int) W (hv.below hb) hz)
  have HC := hide (fun W (hb : Below w.heap.size w W) => refHas_any v l (c : Int) W (hv.below hb) hz)
  have e1 : hasN l (p : Int) = true := by unfold hasN; rw [decide_eq_true ⟨by omega, by omega⟩, right_is.2 hR]; rfl
  have e2 : hasN l (c : Int) = true := by unfold hasN; rw [decide_eq_true ⟨by omega, by omega⟩, right_is.2 hR]; rfl
  rw [e1] at HP
  rw [e2] at HC
  have HU := hide (fun W (hb : Below w.heap.size w W) => refWithin_any v l (p : Int) p (c : Int) W (hv.below hb) ⟨hR, rfl, hp⟩)
  have n1 := noName_size' g1
  have n2 : ¬ (l[p].name.size : Int) = 0 := by omega
  have n3 : ((l[p].name.size : Int) == 0) = false := by rw [beq_eq_false_iff_ne]; exact n2
  have f0 : ((c : Int) == 0) = false := by rw [beq_eq_false_iff_ne]; omega
  have g31 : ¬ c = p := fun t => g3 ((anc_within hR hp).2 (.inl t))
  have f9 : ((c : Int) == (p : Int)) = false := by rw [beq_eq_false_iff_ne]; omega
  have hw0 : withinB l (p : Int) (c : Int) = false := by
    cases q : withinB l (p : Int) (c : Int) with
    | false => rfl
    | true => exact absurd ((anc_within hR hp).2 (.inr q)) g3
  rw [hw0] at HU
  have KL : Hid (l[p].kids.length ≤ 17592186044416) := Nat.le_trans (right_texts hR hp).2.2.2.2 (by omega)
  have HCo := hide (fun W (hb : Below w.heap.size w W) => refCopied_any v l W (hv.below hb) hz)
  have pr := hR.par c hc
  rw [nd_at hc] at pr
  obtain ⟨q, hqq⟩ : ∃ q : Nat, l[c].parent = (q : Int) := ⟨l[c].parent.toNat, by have := pr.1; omega⟩
  have hq : q < l.length := by have := pr.2; omega
  have QL : Hid (l[q].kids.length ≤ 400) := (right_texts hR hq).2.2.2.2
  have q0 : (0 : Int) ≤ (q : Int) := by omega
  have HPP := hide hqq
  clear pr hqq
  obtain ⟨pp, cc, rfl, hv⟩ := hv
  rcases hv with hv | ⟨b, o, rfl, hv⟩
  · rw [hv] at hp; simp at hp
  obtain ⟨va, vk, N0⟩ := hv p hp
  have NW : Hid (∀ W, Below w.heap.size w W → NodeAt W b (o + p * 5) l[p] va vk) := fun W hb => N0.below hb
  have i0 : (0 : Int) ≤ (p : Int) := by omega
  have i1 : (p : Int) < (l.length : Int) := by omega
  have hlen := hR.len.2
  have HR := hide hR
  have j3 : (0 : Int) ≤ (c : Int) := by omega
  obtain ⟨iI, hI0, hI1, hI2, hI3⟩ := info_parts infoI
  have g5 : (-1 : Int) = -1 := rfl
  have G5 := hide g5
  have G6 := hide g6
  clear hv N0 e1 e2 hz hw0 g31 g3 g1 g5 g6
  go_enter Try.func17, Try.ntmps17
  go_wp2_with fail
  refine (HP.out _ (Below.refl _ _)).mono ?_
  rintro e w1 ⟨rfl, b1⟩
  go_wp2_with fail
  refine (HC.out _ b1).mono ?_
  rintro e w2 ⟨rfl, b2⟩
  have B2 := hide (chain b1 b2)
  have a0 := (NW.out w2 B2.out).name
  clear b1 b2
  go_wp2_with fail
  refine (HU.out _ B2.out).mono ?_
  rintro e w4 ⟨rfl, hw⟩
  obtain rfl : w2 = w4 := hw.symm
  go_wp2_with fail
  refine (HCo.out _ B2.out).mono ?_
  rintro e w5 ⟨v5, L, rfl, o5, l5, b5⟩
  have B5 := hide (chain B2.out b5)
  have LL : L.length = l.length := by rw [← ndsOf_len, l5]
  have O5 := hide (OwnD.mono o5 B2.out.size)
  have hcL : c < L.length := by omega
  obtain ⟨G, cp, ev, eb, ge, gl, _⟩ := owns_at O5.out.row (by omega)
  have NC : Hid (l[c] = L[c].n) := by show _ = _; rw [← nd_at hc, ← l5]; exact ndsOf_at hcL
  have L5 := hide l5
  have EB := hide eb
  have LH := hide LL
  have p3 := (O5.out.nodeAt eb hcL).parent
  have jc : (c : Int) < (L.length : Int) := by omega
  rw [← NC.out, HPP.out] at p3
  have hqL : q < L.length := by omega
  have NQ : Hid (l[q] = L[q].n) := by show _ = _; rw [← nd_at hq, ← l5]; exact ndsOf_at hqL
  have r4 := (O5.out.nodeAt eb hqL).kids
  have h4 := owns_free O5.out.row eb (q * 5 + 4)
  have jq : (q : Int) < (L.length : Int) := by omega
  have KQ : Hid (KidsO w.heap.size w5 L[q].k l[q].kids) := by
    have := O5.out.ks L[q] (List.getElem_mem _)
    rw [← NQ.out] at this
    exact this
  have HW := hide (refWithout_any L[q].k l[q].kids (c : Int) w5 KQ.out.ints (by have := QL.out; omega))
  clear o5 l5 b5 a0 HP HC HU HCo eb LL
  subst ev
  go_wp2_with fail
  refine HW.out.mono ?_
  rintro e w6 ⟨q6, c6, rfl, o6, b6⟩
  have s3 := cell_below p3 b6
  have s4 := cell_below r4 b6
  have sf := (b6.frozen (p := ⟨G, q * 5 + 4, none⟩) gl).trans h4
  have D1 := hide (OwnD.putK O5.out EB.out hqL (w1 := w6) (Chg.of_below b6).nil (owns_mono o6 B5.out.size) (.inr (fun k hk => (World.ownsRow.lt o6 k hk).1)))
  have LE0 : Hid (ndsOf (L.set q ⟨{ L[q].n with kids := wout l[q].kids (c : Int) }, L[q].a, .slice q6 (wout l[q].kids (c : Int)).length c6⟩) = cutK l c) := by
    show _ = _
    rw [ndsOf_set, L5.out]
    unfold cutK
    rw [nd_at hc, HPP.out, if_neg (by omega), Int.toNat_natCast]
    unfold upd
    rw [nd_at hq, ← NQ.out]
    rfl
  have LL0 : Hid ((L.set q ⟨{ L[q].n with kids := wout l[q].kids (c : Int) }, L[q].a, .slice q6 (wout l[q].kids (c : Int)).length c6⟩).length = l.length) := by show _ = _; rw [List.length_set]; exact LH.out
  have BS : Hid (Below w.heap.size w (w6.setCell ⟨G, q * 5 + 4, none⟩ (.slice q6 (wout l[q].kids (c : Int)).length c6))) := B5.out.trans (Chg.below ((Chg.of_below b6).nil.trans (Chg.setB w6 G (q * 5 + 4) _)) B5.out.size (fun k z => by rw [List.mem_singleton.1 z]; exact ge))
  have lset : (L.set q ⟨{ L[q].n with kids := wout l[q].kids (c : Int) }, L[q].a, .slice q6 (wout l[q].kids (c : Int)).length c6⟩).length = L.length := List.length_set
  obtain ⟨L1, hL1⟩ : ∃ L1, Hid (L.set q ⟨{ L[q].n with kids := wout l[q].kids (c : Int) }, L[q].a, .slice q6 (wout l[q].kids (c : Int)).length c6⟩ = L1) := ⟨_, show _ = _ from rfl⟩
  rw [hL1.out] at D1 LE0 LL0 lset
  have LS := hide lset
  clear o6 b6 p3 r4 h4 HW KQ lset
  go_upto_region 11 with fail
  clear s3 s4 sf
  generalize w6.setCell ⟨G, q * 5 + 4, none⟩ (.slice q6 (wout l[q].kids (c : Int)).length c6) = w7 at *
  have jp : (p : Int) < (L.length : Int) := by rw [LH.out]; exact i1
  have O7 := D1
  have LE := LE0
  have LL1 := LL0
  have B7 := BS
  clear D1 LE0 LL0 BS
  have hp7 : p < L1.length := by rw [LL1.out]; exact hp
  have hc7 : c < L1.length := by rw [LL1.out]; exact hc
  have c4 := (O7.out.nodeAt EB.out hp7).kids
  have c3 := (O7.out.nodeAt EB.out hc7).parent
  have KO : Hid (KidsO w.heap.size w7 L1[p].k L1[p].n.kids) := O7.out.ks L1[p] (List.getElem_mem hp7)
  have KL7 : Hid (L1[p].n.kids.length ≤ 400) := by
    have t := cut_kids HR.out hc hp
    rw [← LE.out, ndsOf_at hp7] at t
    exact t
  obtain ⟨qk, ck, ek, _⟩ := KO.out.ints
  have EK := hide ek
  rw [ek] at c4
  clear ek
  obtain ⟨ks, HKS⟩ : ∃ ks, Hid (L1[p].n.kids = ks) := ⟨_, show _ = _ from rfl⟩
  rw [HKS.out] at c4 KO KL7 EK
  have kl := KL7.out
  have j1 : (p : Int) < (L1.length : Int) := by omega
  have j2 : (c : Int) < (L1.length : Int) := by omega
  go_wp2_with fail
  go_loopw [12, 13] (fun ov iv wr => ∃ k : Nat, k ≤ ks.length ∧ iv = .int .i64 k ∧ Hid (KidsO w7.heap.size wr ov (putF (ks.take k) (c : Int) (-1 : Int))) ∧ Hid (Below w7.heap.size w7 wr)) (fun _ iv _ => ks.length - (intOf iv).toNat)
  case atStart => exact ⟨0, Nat.zero_le _, rfl, World.ownsRow_nil _ _ _ _, Below.refl _ _⟩
  case round =>
    rename World => wr
    obtain ⟨k, hk, rfl, OU, BB⟩ := hrel
    have d4 := cell_below c4 BB.out
    have d3 := cell_below c3 BB.out
    have WL : Hid (w7.heap.size ≤ wr.heap.size) := BB.out.size
    by_cases h : k < ks.length
    · have k1 : (k : Int) < (ks.length : Int) := by omega
      have k0 : (0 : Int) ≤ (k : Int) := by omega
      obtain ⟨ga, cpa, ea2, eab, ga0, ga1, _⟩ := owns_at KO.out (by omega)
      obtain ⟨rfl, rfl⟩ : qk = some ⟨ga, 0, none⟩ ∧ ck = cpa := by rw [EK.out] at ea2; cases ea2; exact ⟨rfl, rfl⟩
      have x7 := owns_cell KO.out eab (cellsI_at h)
      have x0 := cell_below x7 BB.out
      have UT := hide (putF_take h (c : Int) (-1 : Int))
      have UL : Hid ((putF (ks.take k) (c : Int) (-1 : Int)).length ≤ 2 * k) := Nat.le_trans (putF_len _ _ _) (by rw [List.length_take]; omega)
      clear ea2 eab c3 d3
      obtain ⟨y, hy⟩ : ∃ y, Hid (ks[k] = y) := ⟨_, show _ = _ from rfl⟩
      rw [hy.out] at x0 x7 UT
      have ul := UL.out
      by_cases q : y = (-1 : Int)
      · have tb : (y == (-1 : Int)) = true := by rw [q]; exact beq_self_eq_true (-1 : Int)
        rw [if_pos q] at UT
        clear q
        have CB : Hid (Chg [] wr (wr.alloc (.cells #[.int .i64 (c : Int)] 3))) := Chg.alloc _ _
        have OW := hide (owns_kept OU.out CB.out (fun _ _ q => by cases q))
        have R6 := hide ((NB.new wr [.int .i64 (c : Int)] 3).raw 1 1 rfl 1)
        have W6 : Hid (w7.heap.size ≤ (wr.alloc (.cells #[.int .i64 (c : Int)] 3)).heap.size) := Nat.le_trans WL.out CB.out.size
        go_wp2_with (first | (at_builtin; refine wpList_append_raw rfl _ _ _ rfl w7.heap.size 3 iI _ 1 8 Try.underlying43 hI0 hI1 hI2 hI3 rfl (by omega) _ (putF (ks.take k) (c : Int) (-1 : Int)).length (cellsI (putF (ks.take k) (c : Int) (-1 : Int))) rfl OW.out (.slice (some ⟨wr.heap.size, 0, none⟩) 1 1) 1 [.int .i64 (c : Int)] rfl R6.out (by simp [Value.oneCell']) (by unfold maxLen; omega) (by omega) W6.out ?_; intro q6 c6 w6 own6 gr6 at6; have B6 : Hid (Below w7.heap.size w7 w6) := BB.out.trans (Chg.below (CB.out.nil.trans (Chg.of_grown gr6)) WL.out (fun k q => (World.ownsRow.lt OU.out k (opt_mem.1 q)).1)); have y4 := cell_below c4 B6.out; have y0 := cell_below x7 B6.out; have O6 : Hid (KidsO w7.heap.size w6 (.slice q6 ((putF (ks.take k) (c : Int) (-1 : Int)).length + 1) c6) (putF (ks.take k) (c : Int) (-1 : Int) ++ [(c : Int)])) := (by show KidsO _ _ _ _; unfold KidsO; rw [List.length_append, cellsI_app]; exact own6); have CC : Hid (Chg [] w6 (w6.alloc (.cells #[.int .i64 y] 3))) := Chg.alloc _ _; have OX := hide (owns_kept O6.out CC.out (fun _ _ q => by cases q)); have R7 := hide ((NB.new w6 [.int .i64 y] 3).raw 1 1 rfl 1); have W7 : Hid (w7.heap.size ≤ (w6.alloc (.cells #[.int .i64 y] 3)).heap.size) := Nat.le_trans B6.out.size CC.out.size; have G6 := hide gr6; have A6 := hide at6; have N6 := hide own6; clear gr6 at6 own6 d4 x0) | (at_builtin; refine wpList_append_raw rfl _ _ _ rfl w7.heap.size 3 iI _ 1 8 Try.underlying43 hI0 hI1 hI2 hI3 rfl (by omega) _ ((putF (ks.take k) (c : Int) (-1 : Int)).length + 1) (cellsI ((putF (ks.take k) (c : Int) (-1 : Int)) ++ [(c : Int)])) rfl (by have t := OX.out; rw [List.length_append] at t; exact t) (.slice (some ⟨w6.heap.size, 0, none⟩) 1 1) 1 [.int .i64 y] rfl R7.out (by simp [Value.oneCell']) (by unfold maxLen; omega) (by omega) W7.out ?_; intro q8 c8 w8 own8 gr8 at8))
        go_roundw
        case rel =>
          refine ⟨k + 1, by omega, by go_num, ?_, ?_⟩
          · show KidsO _ _ _ _
            rw [UT.out, show ([(c : Int), y] : List Int) = [(c : Int)] ++ [y] from rfl, ← List.append_assoc]
            unfold KidsO
            rw [List.length_append, List.length_append, cellsI_app]
            exact own8
          · exact B6.out.trans (Chg.below (CC.out.nil.trans (Chg.of_grown gr8)) B6.out.size (fun k q => (World.ownsRow.lt O6.out k (opt_mem.1 q)).1))
        case measure => simp [intOf]; omega
      · have tb : (y == (-1 : Int)) = false := by rw [beq_eq_false_iff_ne]; exact q
        rw [if_neg q] at UT
        clear q
        have CB : Hid (Chg [] wr (wr.alloc (.cells #[.int .i64 y] 3))) := Chg.alloc _ _
        have OW := hide (owns_kept OU.out CB.out (fun _ _ q => by cases q))
        have R6 := hide ((NB.new wr [.int .i64 y] 3).raw 1 1 rfl 1)
        have W6 : Hid (w7.heap.size ≤ (wr.alloc (.cells #[.int .i64 y] 3)).heap.size) := Nat.le_trans WL.out CB.out.size
        go_wp2_with (at_builtin; refine wpList_append_raw rfl _ _ _ rfl w7.heap.size 3 iI _ 1 8 Try.underlying43 hI0 hI1 hI2 hI3 rfl (by omega) _ (putF (ks.take k) (c : Int) (-1 : Int)).length (cellsI (putF (ks.take k) (c : Int) (-1 : Int))) rfl OW.out (.slice (some ⟨wr.heap.size, 0, none⟩) 1 1) 1 [.int .i64 y] rfl R6.out (by simp [Value.oneCell']) (by unfold maxLen; omega) (by omega) W6.out ?_; intro q6 c6 w6 own6 gr6 at6)
        go_roundw
        case rel =>
          refine ⟨k + 1, by omega, by go_num, ?_, ?_⟩
          · show KidsO _ _ _ _
            rw [UT.out]
            unfold KidsO
            rw [List.length_append, cellsI_app]
            exact own6
          · exact BB.out.trans (Chg.below (CB.out.nil.trans (Chg.of_grown gr6)) BB.out.size (fun k q => (World.ownsRow.lt OU.out k (opt_mem.1 q)).1))
        case measure => simp [intOf]; omega
    · obtain rfl : k = ks.length := by omega
      have OF : Hid (KidsO w7.heap.size wr u12 (putF ks (c : Int) (-1 : Int))) := by have := OU.out; rw [List.take_length] at this; exact this
      clear h OU
      obtain ⟨qu, cu, eu, _⟩ := OF.out.ints
      subst eu
      have FZ : Hid (∀ W, Below w7.heap.size w7 W → ∀ j, W.frozen? ⟨G, j, none⟩ = false) := fun W hb j => (hb.frozen (p := ⟨G, j, none⟩) (O7.out.row.lt G EB.out).2).trans (owns_free O7.out.row EB.out j)
      have PK : Hid (putK ks (c : Int) (-1 : Int) = putF ks (c : Int) (-1 : Int) ++ [(c : Int)]) := by show _ = _; rw [putK_of]; rfl
      have UL : (putF ks (c : Int) (-1 : Int)).length ≤ 2 * ks.length := putF_len _ _ _
      have CB : Hid (Chg [] wr (wr.alloc (.cells #[.int .i64 (c : Int)] 3))) := Chg.alloc _ _
      have OW := hide (owns_kept OF.out CB.out (fun _ _ q => by cases q))
      have R6 := hide ((NB.new wr [.int .i64 (c : Int)] 3).raw 1 1 rfl 1)
      have W6 : Hid (w7.heap.size ≤ (wr.alloc (.cells #[.int .i64 (c : Int)] 3)).heap.size) := Nat.le_trans WL.out CB.out.size
      go_wp2_with (at_builtin; refine wpList_append_raw rfl _ _ _ rfl w7.heap.size 3 iI _ 1 8 Try.underlying43 hI0 hI1 hI2 hI3 rfl (by omega) _ (putF ks (c : Int) (-1 : Int)).length (cellsI (putF ks (c : Int) (-1 : Int))) rfl OW.out (.slice (some ⟨wr.heap.size, 0, none⟩) 1 1) 1 [.int .i64 (c : Int)] rfl R6.out (by simp [Value.oneCell']) (by unfold maxLen; omega) (by omega) W6.out ?_; intro q6 c6 w6 own6 gr6 at6; have B6 : Hid (Below w7.heap.size w7 w6) := BB.out.trans (Chg.below (CB.out.nil.trans (Chg.of_grown gr6)) WL.out (fun k q => (World.ownsRow.lt OF.out k (opt_mem.1 q)).1)); have y4 := cell_below c4 B6.out; have y3 := cell_below c3 B6.out; have z4 := FZ.out w6 B6.out (p * 5 + 4); have z3 := FZ.out w6 B6.out (c * 5 + 3); have O6 : Hid (KidsO w7.heap.size w6 (.slice q6 ((putF ks (c : Int) (-1 : Int)).length + 1) c6) (putK ks (c : Int) (-1 : Int))) := (by show KidsO _ _ _ _; unfold KidsO; rw [PK.out, List.length_append, cellsI_app]; exact own6); have G6 := hide gr6; have A6 := hide at6; have N6 := hide own6; clear gr6 at6 own6 d4 d3)
      go_ret2
      have D1 := OwnD.putK O7.out EB.out hp7 (w1 := w6) (Chg.of_below B6.out).nil (owns_mono O6.out B7.out.size) (.inr (fun k hk => (World.ownsRow.lt O6.out k hk).1))
      have hc2 : c < (L1.set p ⟨{ L1[p].n with kids := putK ks (c : Int) (-1 : Int) }, L1[p].a, .slice q6 ((putF ks (c : Int) (-1 : Int)).length + 1) c6⟩).length := by rw [List.length_set]; exact hc7
      have D2 := OwnD.putP D1 EB.out hc2 (p : Int)
      have N2 := D2.nodes
      rw [ndsOf_set, ← ndsOf_at hc2, ndsOf_set] at N2
      have E : insP l p c (-1 : Int) = ((ndsOf L1).set p { L1[p].n with kids := putK ks (c : Int) (-1 : Int) }).set c { nd ((ndsOf L1).set p { L1[p].n with kids := putK ks (c : Int) (-1 : Int) }) c with parent := (p : Int) } := by
        unfold insP upd
        rw [← LE.out, ndsOf_at hp7]
        simp only [HKS.out]
      rw [← E] at N2
      have CG : ∀ (W : World) (j : Nat) (u : Value), Chg [G] W (W.setCell ⟨G, j, none⟩ u) := fun W j u => Chg.setB W G j u
      exact ⟨_, rfl, N2, B7.out.trans (Chg.below (((Chg.of_below B6.out).nil.trans (CG _ _ _)).trans (CG _ _ _)) B7.out.size (fun k q => by rw [List.mem_singleton.1 q]; exact ge))⟩

set_option maxHeartbeats 8000000 in
set_option maxRecDepth 100000 in
theorem refInsert_ok_kb (v : Value) (l : List Nd) (p c : Nat) (bf : Int) (w : World) (hv : NodesV w v l) (hz : DocSz l) (hR : Right l) (hp : p < l.length) (hc : c < l.length)
    (g1 : noName l[p].name = false) (g2 : ¬ c = 0) (g3 : (c : Int) ∉ anc l (p : Int)) (g5 : ¬ bf = -1 ∧ ¬ bf = (c : Int) ∧ bf ∈ l[p].kids) (g6 : ¬ l[c].parent = -1) :
    Calls Try.prog 17 #[v, .int .i64 (p : Int), .int .i64 (c : Int), .int .i64 bf] w fun e w' => ∃ v', e = .returned (.tuple #[v', .int .i64 0]) ∧ NodesV w' v' (insP l p c bf) ∧ Below w.heap.size w w' := by
  have HP := hide (fun W (hb : Below w.heap.size w W) => refHas_any v l (p : Int) W (hv.below hb) hz)
  have HC := hide (fun W (hb : Below w.heap.size w W) => refHas_any v l (c : Int) W (hv.below hb) hz)
  have e1 : hasN l (p : Int) = true := by unfold hasN; rw [decide_eq_true ⟨by omega, by omega⟩, right_is.2 hR]; rfl
  have e2 : hasN l (c : Int) = true := by unfold hasN; rw [decide_eq_true ⟨by omega, by omega⟩, right_is.2 hR]; rfl
  rw [e1] at HP
  rw [e2] at HC
  have HU := hide (fun W (hb : Below w.heap.size w W) => refWithin_any v l (p : Int) p (c : Int) W (hv.below hb) ⟨hR, rfl, hp⟩)
  have n1 := noName_size' g1
  have n2 : ¬ (l[p].name.size : Int) = 0 := by omega
  have n3 : ((l[p].name.size : Int) == 0) = false := by rw [beq_eq_false_iff_ne]; exact n2
  have f0 : ((c : Int) == 0) = false := by rw [beq_eq_false_iff_ne]; omega
  have g31 : ¬ c = p := fun t => g3 ((anc_within hR hp).2 (.inl t))
  have f9 : ((c : Int) == (p : Int)) = false := by rw [beq_eq_false_iff_ne]; omega
  have hw0 : withinB l (p : Int) (c : Int) = false := by
    cases q : withinB l (p : Int) (c : Int) with
    | false => rfl
    | true => exact absurd ((anc_within hR hp).2 (.inr q)) g3
  rw [hw0] at HU
  have KL : Hid (l[p].kids.length ≤ 17592186044416) := Nat.le_trans (right_texts hR hp).2.2.2.2 (by omega)
  have HCo := hide (fun W (hb : Below w.heap.size w W) => refCopied_any v l W (hv.below hb) hz)
  have pr := hR.par c hc
  rw [nd_at hc] at pr
  obtain ⟨q, hqq⟩ : ∃ q : Nat, l[c].parent = (q : Int) := ⟨l[c].parent.toNat, by have := pr.1; omega⟩
  have hq : q < l.length := by have := pr.2; omega
  have QL : Hid (l[q].kids.length ≤ 400) := (right_texts hR hq).2.2.2.2
  have q0 : (0 : Int) ≤ (q : Int) := by omega
  have HPP := hide hqq
  clear pr hqq
  obtain ⟨pp, cc, rfl, hv⟩ := hv
  rcases hv with hv | ⟨b, o, rfl, hv⟩
  · rw [hv] at hp; simp at hp
  obtain ⟨va, vk, N0⟩ := hv p hp
  have NW : Hid (∀ W, Below w.heap.size w W → NodeAt W b (o + p * 5) l[p] va vk) := fun W hb => N0.below hb
  have i0 : (0 : Int) ≤ (p : Int) := by omega
  have i1 : (p : Int) < (l.length : Int) := by omega
  have hlen := hR.len.2
  have HR := hide hR
  have j3 : (0 : Int) ≤ (c : Int) := by omega
  obtain ⟨iI, hI0, hI1, hI2, hI3⟩ := info_parts infoI
  have fb : (bf == -1) = false := by rw [beq_eq_false_iff_ne]; exact g5.1
  have fb2 : ¬ bf = -1 := g5.1
  have fc2 : ¬ bf = (c : Int) := g5.2.1
  have fc : (bf == (c : Int)) = false := by rw [beq_eq_false_iff_ne]; exact g5.2.1
  obtain ⟨nc, hnc⟩ : ∃ nc, Hid (cntI l[p].kids bf = nc) := ⟨_, show _ = _ from rfl⟩
  have ncp : 0 < nc := by rw [← hnc.out]; exact cnt_pos.1 g5.2.2
  have ncb : ((nc : Int) == 0) = false := by rw [beq_eq_false_iff_ne]; omega
  have G5 := hide g5
  have G6 := hide g6
  clear hv N0 e1 e2 hz hw0 g31 g3 g1 g5 g6
  go_enter Try.func17, Try.ntmps17
  go_wp2_with fail
  refine (HP.out _ (Below.refl _ _)).mono ?_
  rintro e w1 ⟨rfl, b1⟩
  go_wp2_with fail
  refine (HC.out _ b1).mono ?_
  rintro e w2 ⟨rfl, b2⟩
  have B2 := hide (chain b1 b2)
  have a0 := (NW.out w2 B2.out).name
  clear b1 b2
  go_wp2_with fail
  refine (HU.out _ B2.out).mono ?_
  rintro e w4 ⟨rfl, hw⟩
  obtain rfl : w2 = w4 := hw.symm
  have a4 := (NW.out w2 B2.out).kids
  have HK := hide (refCount_any vk l[p].kids bf w2 (NW.out w2 B2.out).ks KL.out)
  rw [hnc.out] at HK
  go_wp2_with fail
  refine HK.out.mono ?_
  rintro e w5 ⟨rfl, hw⟩
  obtain rfl : w2 = w5 := hw.symm
  clear a4
  go_wp2_with fail
  refine (HCo.out _ B2.out).mono ?_
  rintro e w5 ⟨v5, L, rfl, o5, l5, b5⟩
  have B5 := hide (chain B2.out b5)
  have LL : L.length = l.length := by rw [← ndsOf_len, l5]
  have O5 := hide (OwnD.mono o5 B2.out.size)
  have hcL : c < L.length := by omega
  obtain ⟨G, cp, ev, eb, ge, gl, _⟩ := owns_at O5.out.row (by omega)
  have NC : Hid (l[c] = L[c].n) := by show _ = _; rw [← nd_at hc, ← l5]; exact ndsOf_at hcL
  have L5 := hide l5
  have EB := hide eb
  have LH := hide LL
  have p3 := (O5.out.nodeAt eb hcL).parent
  have jc : (c : Int) < (L.length : Int) := by omega
  rw [← NC.out, HPP.out] at p3
  have hqL : q < L.length := by omega
  have NQ : Hid (l[q] = L[q].n) := by show _ = _; rw [← nd_at hq, ← l5]; exact ndsOf_at hqL
  have r4 := (O5.out.nodeAt eb hqL).kids
  have h4 := owns_free O5.out.row eb (q * 5 + 4)
  have jq : (q : Int) < (L.length : Int) := by omega
  have KQ : Hid (KidsO w.heap.size w5 L[q].k l[q].kids) := by
    have := O5.out.ks L[q] (List.getElem_mem _)
    rw [← NQ.out] at this
    exact this
  have HW := hide (refWithout_any L[q].k l[q].kids (c : Int) w5 KQ.out.ints (by have := QL.out; omega))
  clear o5 l5 b5 a0 HP HC HU HCo eb LL
  subst ev
  go_wp2_with fail
  refine HW.out.mono ?_
  rintro e w6 ⟨q6, c6, rfl, o6, b6⟩
  have s3 := cell_below p3 b6
  have s4 := cell_below r4 b6
  have sf := (b6.frozen (p := ⟨G, q * 5 + 4, none⟩) gl).trans h4
  have D1 := hide (OwnD.putK O5.out EB.out hqL (w1 := w6) (Chg.of_below b6).nil (owns_mono o6 B5.out.size) (.inr (fun k hk => (World.ownsRow.lt o6 k hk).1)))
  have LE0 : Hid (ndsOf (L.set q ⟨{ L[q].n with kids := wout l[q].kids (c : Int) }, L[q].a, .slice q6 (wout l[q].kids (c : Int)).length c6⟩) = cutK l c) := by
    show _ = _
    rw [ndsOf_set, L5.out]
    unfold cutK
    rw [nd_at hc, HPP.out, if_neg (by omega), Int.toNat_natCast]
    unfold upd
    rw [nd_at hq, ← NQ.out]
    rfl
  have LL0 : Hid ((L.set q ⟨{ L[q].n with kids := wout l[q].kids (c : Int) }, L[q].a, .slice q6 (wout l[q].kids (c : Int)).length c6⟩).length = l.length) := by show _ = _; rw [List.length_set]; exact LH.out
  have BS : Hid (Below w.heap.size w (w6.setCell ⟨G, q * 5 + 4, none⟩ (.slice q6 (wout l[q].kids (c : Int)).length c6))) := B5.out.trans (Chg.below ((Chg.of_below b6).nil.trans (Chg.setB w6 G (q * 5 + 4) _)) B5.out.size (fun k z => by rw [List.mem_singleton.1 z]; exact ge))
  have lset : (L.set q ⟨{ L[q].n with kids := wout l[q].kids (c : Int) }, L[q].a, .slice q6 (wout l[q].kids (c : Int)).length c6⟩).length = L.length := List.length_set
  obtain ⟨L1, hL1⟩ : ∃ L1, Hid (L.set q ⟨{ L[q].n with kids := wout l[q].kids (c : Int) }, L[q].a, .slice q6 (wout l[q].kids (c : Int)).length c6⟩ = L1) := ⟨_, show _ = _ from rfl⟩
  rw [hL1.out] at D1 LE0 LL0 lset
  have LS := hide lset
  clear o6 b6 p3 r4 h4 HW KQ lset
  go_upto_region 11 with fail
  clear s3 s4 sf
  generalize w6.setCell ⟨G, q * 5 + 4, none⟩ (.slice q6 (wout l[q].kids (c : Int)).length c6) = w7 at *
  have jp : (p : Int) < (L.length : Int) := by rw [LH.out]; exact i1
  have O7 := D1
  have LE := LE0
  have LL1 := LL0
  have B7 := BS
  clear D1 LE0 LL0 BS
  have hp7 : p < L1.length := by rw [LL1.out]; exact hp
  have hc7 : c < L1.length := by rw [LL1.out]; exact hc
  have c4 := (O7.out.nodeAt EB.out hp7).kids
  have c3 := (O7.out.nodeAt EB.out hc7).parent
  have KO : Hid (KidsO w.heap.size w7 L1[p].k L1[p].n.kids) := O7.out.ks L1[p] (List.getElem_mem hp7)
  have KL7 : Hid (L1[p].n.kids.length ≤ 400) := by
    have t := cut_kids HR.out hc hp
    rw [← LE.out, ndsOf_at hp7] at t
    exact t
  obtain ⟨qk, ck, ek, _⟩ := KO.out.ints
  have EK := hide ek
  rw [ek] at c4
  clear ek
  obtain ⟨ks, HKS⟩ : ∃ ks, Hid (L1[p].n.kids = ks) := ⟨_, show _ = _ from rfl⟩
  rw [HKS.out] at c4 KO KL7 EK
  have kl := KL7.out
  have j1 : (p : Int) < (L1.length : Int) := by omega
  have j2 : (c : Int) < (L1.length : Int) := by omega
  go_wp2_with fail
  go_loopw [12, 13] (fun ov iv wr => ∃ k : Nat, k ≤ ks.length ∧ iv = .int .i64 k ∧ Hid (KidsO w7.heap.size wr ov (putF (ks.take k) (c : Int) bf)) ∧ Hid (Below w7.heap.size w7 wr)) (fun _ iv _ => ks.length - (intOf iv).toNat)
  case atStart => exact ⟨0, Nat.zero_le _, rfl, World.ownsRow_nil _ _ _ _, Below.refl _ _⟩
  case round =>
    rename World => wr
    obtain ⟨k, hk, rfl, OU, BB⟩ := hrel
    have d4 := cell_below c4 BB.out
    have d3 := cell_below c3 BB.out
    have WL : Hid (w7.heap.size ≤ wr.heap.size) := BB.out.size
    by_cases h : k < ks.length
    · have k1 : (k : Int) < (ks.length : Int) := by omega
      have k0 : (0 : Int) ≤ (k : Int) := by omega
      obtain ⟨ga, cpa, ea2, eab, ga0, ga1, _⟩ := owns_at KO.out (by omega)
      obtain ⟨rfl, rfl⟩ : qk = some ⟨ga, 0, none⟩ ∧ ck = cpa := by rw [EK.out] at ea2; cases ea2; exact ⟨rfl, rfl⟩
      have x7 := owns_cell KO.out eab (cellsI_at h)
      have x0 := cell_below x7 BB.out
      have UT := hide (putF_take h (c : Int) bf)
      have UL : Hid ((putF (ks.take k) (c : Int) bf).length ≤ 2 * k) := Nat.le_trans (putF_len _ _ _) (by rw [List.length_take]; omega)
      clear ea2 eab c3 d3
      obtain ⟨y, hy⟩ : ∃ y, Hid (ks[k] = y) := ⟨_, show _ = _ from rfl⟩
      rw [hy.out] at x0 x7 UT
      have ul := UL.out
      by_cases q : y = bf
      · have tb : (y == bf) = true := by rw [q]; exact beq_self_eq_true bf
        rw [if_pos q] at UT
        clear q
        have CB : Hid (Chg [] wr (wr.alloc (.cells #[.int .i64 (c : Int)] 3))) := Chg.alloc _ _
        have OW := hide (owns_kept OU.out CB.out (fun _ _ q => by cases q))
        have R6 := hide ((NB.new wr [.int .i64 (c : Int)] 3).raw 1 1 rfl 1)
        have W6 : Hid (w7.heap.size ≤ (wr.alloc (.cells #[.int .i64 (c : Int)] 3)).heap.size) := Nat.le_trans WL.out CB.out.size
        go_wp2_with (first | (at_builtin; refine wpList_append_raw rfl _ _ _ rfl w7.heap.size 3 iI _ 1 8 Try.underlying43 hI0 hI1 hI2 hI3 rfl (by omega) _ (putF (ks.take k) (c : Int) bf).length (cellsI (putF (ks.take k) (c : Int) bf)) rfl OW.out (.slice (some ⟨wr.heap.size, 0, none⟩) 1 1) 1 [.int .i64 (c : Int)] rfl R6.out (by simp [Value.oneCell']) (by unfold maxLen; omega) (by omega) W6.out ?_; intro q6 c6 w6 own6 gr6 at6; have B6 : Hid (Below w7.heap.size w7 w6) := BB.out.trans (Chg.below (CB.out.nil.trans (Chg.of_grown gr6)) WL.out (fun k q => (World.ownsRow.lt OU.out k (opt_mem.1 q)).1)); have y4 := cell_below c4 B6.out; have y0 := cell_below x7 B6.out; have O6 : Hid (KidsO w7.heap.size w6 (.slice q6 ((putF (ks.take k) (c : Int) bf).length + 1) c6) (putF (ks.take k) (c : Int) bf ++ [(c : Int)])) := (by show KidsO _ _ _ _; unfold KidsO; rw [List.length_append, cellsI_app]; exact own6); have CC : Hid (Chg [] w6 (w6.alloc (.cells #[.int .i64 y] 3))) := Chg.alloc _ _; have OX := hide (owns_kept O6.out CC.out (fun _ _ q => by cases q)); have R7 := hide ((NB.new w6 [.int .i64 y] 3).raw 1 1 rfl 1); have W7 : Hid (w7.heap.size ≤ (w6.alloc (.cells #[.int .i64 y] 3)).heap.size) := Nat.le_trans B6.out.size CC.out.size; have G6 := hide gr6; have A6 := hide at6; have N6 := hide own6; clear gr6 at6 own6 d4 x0) | (at_builtin; refine wpList_append_raw rfl _ _ _ rfl w7.heap.size 3 iI _ 1 8 Try.underlying43 hI0 hI1 hI2 hI3 rfl (by omega) _ ((putF (ks.take k) (c : Int) bf).length + 1) (cellsI ((putF (ks.take k) (c : Int) bf) ++ [(c : Int)])) rfl (by have t := OX.out; rw [List.length_append] at t; exact t) (.slice (some ⟨w6.heap.size, 0, none⟩) 1 1) 1 [.int .i64 y] rfl R7.out (by simp [Value.oneCell']) (by unfold maxLen; omega) (by omega) W7.out ?_; intro q8 c8 w8 own8 gr8 at8))
        go_roundw
        case rel =>
          refine ⟨k + 1, by omega, by go_num, ?_, ?_⟩
          · show KidsO _ _ _ _
            rw [UT.out, show ([(c : Int), y] : List Int) = [(c : Int)] ++ [y] from rfl, ← List.append_assoc]
            unfold KidsO
            rw [List.length_append, List.length_append, cellsI_app]
            exact own8
          · exact B6.out.trans (Chg.below (CC.out.nil.trans (Chg.of_grown gr8)) B6.out.size (fun k q => (World.ownsRow.lt O6.out k (opt_mem.1 q)).1))
        case measure => simp [intOf]; omega
      · have tb : (y == bf) = false := by rw [beq_eq_false_iff_ne]; exact q
        rw [if_neg q] at UT
        clear q
        have CB : Hid (Chg [] wr (wr.alloc (.cells #[.int .i64 y] 3))) := Chg.alloc _ _
        have OW := hide (owns_kept OU.out CB.out (fun _ _ q => by cases q))
        have R6 := hide ((NB.new wr [.int .i64 y] 3).raw 1 1 rfl 1)
        have W6 : Hid (w7.heap.size ≤ (wr.alloc (.cells #[.int .i64 y] 3)).heap.size) := Nat.le_trans WL.out CB.out.size
        go_wp2_with (at_builtin; refine wpList_append_raw rfl _ _ _ rfl w7.heap.size 3 iI _ 1 8 Try.underlying43 hI0 hI1 hI2 hI3 rfl (by omega) _ (putF (ks.take k) (c : Int) bf).length (cellsI (putF (ks.take k) (c : Int) bf)) rfl OW.out (.slice (some ⟨wr.heap.size, 0, none⟩) 1 1) 1 [.int .i64 y] rfl R6.out (by simp [Value.oneCell']) (by unfold maxLen; omega) (by omega) W6.out ?_; intro q6 c6 w6 own6 gr6 at6)
        go_roundw
        case rel =>
          refine ⟨k + 1, by omega, by go_num, ?_, ?_⟩
          · show KidsO _ _ _ _
            rw [UT.out]
            unfold KidsO
            rw [List.length_append, cellsI_app]
            exact own6
          · exact BB.out.trans (Chg.below (CB.out.nil.trans (Chg.of_grown gr6)) BB.out.size (fun k q => (World.ownsRow.lt OU.out k (opt_mem.1 q)).1))
        case measure => simp [intOf]; omega
    · obtain rfl : k = ks.length := by omega
      have OF : Hid (KidsO w7.heap.size wr u12 (putF ks (c : Int) bf)) := by have := OU.out; rw [List.take_length] at this; exact this
      clear h OU
      obtain ⟨qu, cu, eu, _⟩ := OF.out.ints
      subst eu
      have FZ : Hid (∀ W, Below w7.heap.size w7 W → ∀ j, W.frozen? ⟨G, j, none⟩ = false) := fun W hb j => (hb.frozen (p := ⟨G, j, none⟩) (O7.out.row.lt G EB.out).2).trans (owns_free O7.out.row EB.out j)
      have f1 : (bf == -1) = false := by rw [beq_eq_false_iff_ne]; exact G5.out.1
      have PK : Hid (putK ks (c : Int) bf = putF ks (c : Int) bf) := by show _ = _; rw [putK_of, if_neg G5.out.1, List.append_nil]
      have O6 : Hid (KidsO w7.heap.size wr (.slice qu (putF ks (c : Int) bf).length cu) (putK ks (c : Int) bf)) := by show KidsO _ _ _ _; rw [PK.out]; exact OF.out
      have B6 := BB
      have z4 := FZ.out wr B6.out (p * 5 + 4)
      have z3 := FZ.out wr B6.out (c * 5 + 3)
      go_wp2_with fail
      go_ret2
      have D1 := OwnD.putK O7.out EB.out hp7 (w1 := wr) (Chg.of_below B6.out).nil (owns_mono O6.out B7.out.size) (.inr (fun k hk => (World.ownsRow.lt O6.out k hk).1))
      have hc2 : c < (L1.set p ⟨{ L1[p].n with kids := putK ks (c : Int) bf }, L1[p].a, .slice qu (putF ks (c : Int) bf).length cu⟩).length := by rw [List.length_set]; exact hc7
      have D2 := OwnD.putP D1 EB.out hc2 (p : Int)
      have N2 := D2.nodes
      rw [ndsOf_set, ← ndsOf_at hc2, ndsOf_set] at N2
      have E : insP l p c bf = ((ndsOf L1).set p { L1[p].n with kids := putK ks (c : Int) bf }).set c { nd ((ndsOf L1).set p { L1[p].n with kids := putK ks (c : Int) bf }) c with parent := (p : Int) } := by
        unfold insP upd
        rw [← LE.out, ndsOf_at hp7]
        simp only [HKS.out]
      rw [← E] at N2
      have CG : ∀ (W : World) (j : Nat) (u : Value), Chg [G] W (W.setCell ⟨G, j, none⟩ u) := fun W j u => Chg.setB W G j u
      exact ⟨_, rfl, N2, B7.out.trans (Chg.below (((Chg.of_below B6.out).nil.trans (CG _ _ _)).trans (CG _ _ _)) B7.out.size (fun k q => by rw [List.mem_singleton.1 q]; exact ge))⟩

theorem refInsert_ok (v : Value) (l : List Nd) (p c : Nat) (bf : Int) (w : World) (hv : NodesV w v l) (hz : DocSz l) (hR : Right l) (hp : p < l.length) (hc : c < l.length)
    (g1 : noName l[p].name = false) (g2 : ¬ c = 0) (g3 : (c : Int) ∉ anc l (p : Int)) (g5 : bf = -1 ∨ (¬ bf = (c : Int) ∧ bf ∈ l[p].kids)) :
    Calls Try.prog 17 #[v, .int .i64 (p : Int), .int .i64 (c : Int), .int .i64 bf] w fun e w' => ∃ v', e = .returned (.tuple #[v', .int .i64 0]) ∧ NodesV w' v' (insP l p c bf) ∧ Below w.heap.size w w' := by
  by_cases a : l[c].parent = -1
  · by_cases b : bf = -1
    · exact refInsert_ok_rn v l p c bf w hv hz hR hp hc g1 g2 g3 b a
    · exact refInsert_ok_rb v l p c bf w hv hz hR hp hc g1 g2 g3 ⟨b, g5.resolve_left b⟩ a
  · by_cases b : bf = -1
    · exact refInsert_ok_kn v l p c bf w hv hz hR hp hc g1 g2 g3 b a
    · exact refInsert_ok_kb v l p c bf w hv hz hR hp hc g1 g2 g3 ⟨b, g5.resolve_left b⟩ a

end Go.Proofs.Ytkloahpkjbohoaa
