/- One node of a document of the call's own is changed: its attributes, its children, its parent. No condition. -/
import Derived.Test.YtkloahpkjbohoaaDocCP
import Derived.Test.YtkloahpkjbohoaaDocZ
import Derived.Test.YtkloahpkjbohoaaDocL
namespace Go.Proofs.Ytkloahpkjbohoaa
open Go.RowKit

theorem ndsOf_set (L : List NdV) (i : Nat) (x : NdV) : ndsOf (L.set i x) = (ndsOf L).set i x.n := by unfold ndsOf; rw [List.map_set]
theorem blks_nodup {base : Nat} {w : World} {v : Value} {L : List NdV} (h : OwnD base w v L) {i : Nat} (hi : i < L.length) : (blks L[i]).Nodup := by
  obtain ⟨A, B, e1, _⟩ := set_mid hi L[i]
  have s := h.sep
  rw [e1, List.flatMap_append, List.flatMap_cons, List.nodup_append] at s
  have s2 := s.2.1
  rw [List.nodup_append] at s2
  have s3 := s2.2.1
  rw [List.nodup_append] at s3
  exact s3.1
theorem own_ne {base : Nat} {w : World} {v : Value} {L : List NdV} (h : OwnD base w v L) {i : Nat} (hi : i < L.length) {G : Nat} (hG : v.ownBlock = some G) : G ∉ blks L[i] := by
  intro q
  have s := h.sep
  rw [List.nodup_append] at s
  exact s.2.2 G (opt_mem.2 hG) G (List.mem_flatMap.2 ⟨L[i], List.getElem_mem _, q⟩) rfl
theorem opt_nodup (o : Option Nat) : o.toList.Nodup := by cases o <;> simp
/-- Its attributes lie elsewhere now, or are others. -/
theorem OwnD.putA {base : Nat} {w : World} {v : Value} {L : List NdV} (h : OwnD base w v L) {G : Nat} (hG : v.ownBlock = some G) {i : Nat} (hi : i < L.length) {w1 : World} {u : Value} {ax : List (ByteArray × ByteArray)} (hc : Chg L[i].a.ownBlock.toList w w1) (ha : AttrsO base w1 u ax)
    (hb : u.ownBlock = L[i].a.ownBlock ∨ ∀ k, u.ownBlock = some k → w.heap.size ≤ k) : OwnD base (w1.setCell ⟨G, i * 5 + 2, none⟩ u) v (L.set i ⟨{ L[i].n with attrs := ax }, u, L[i].k⟩) := by
  have nG := own_ne h hi hG
  have ND := blks_nodup h hi
  have hlt : G < w.heap.size := (h.row.lt G hG).2
  have AK : ∀ k, L[i].k.ownBlock = some k → k < w.heap.size := fun k hk => (World.ownsRow.lt (h.ks L[i] (List.getElem_mem hi)) k hk).2
  have uG : ∀ k, u.ownBlock = some k → k ≠ G := by
    intro k hk e
    subst e
    rcases hb with q | q
    · exact nG (List.mem_append_left _ (opt_mem.2 (by rw [← q]; exact hk)))
    · have := q k hk; omega
  have uK : ∀ k, u.ownBlock = some k → L[i].k.ownBlock ≠ some k := by
    intro k hk e
    rcases hb with q | q
    · unfold blks at ND
      rw [List.nodup_append] at ND
      exact ND.2.2 k (opt_mem.2 (by rw [← q]; exact hk)) k (opt_mem.2 e) rfl
    · have := q k hk; have := AK k e; omega
  refine h.put hi (S := G :: L[i].a.ownBlock.toList) ((hc.mono (fun k q _ => List.mem_cons_of_mem _ q)).trans ((Chg.setB _ _ _ _).mono (fun k q _ => by rw [List.mem_singleton.1 q]; exact List.mem_cons_self ..))) ?_ ?_ ?_ ?_ ?_ ?_
  · intro k q _
    rcases List.mem_cons.1 q with t | t
    · exact .inl (by rw [t]; exact hG)
    · exact .inr (List.mem_append_left _ t)
  · have r := owns_set (owns_kept h.row hc (fun k hk q => by
      have e : G = k := Option.some.inj (hG.symm.trans hk)
      exact nG (List.mem_append_left _ (by rw [e]; exact q)))) hG (i * 5 + 2) u
    rw [cellsV_set hi (x' := ⟨{ L[i].n with attrs := ax }, u, L[i].k⟩) (by omega) rfl] at r
    exact r
  · exact owns_kept ha (Chg.setB _ _ _ _) (fun k hk q => uG k hk (List.mem_singleton.1 q))
  · refine owns_kept (owns_kept (h.ks L[i] (List.getElem_mem hi)) hc (fun k hk q => ?_)) (Chg.setB _ _ _ _) (fun k hk q => ?_)
    · unfold blks at ND
      rw [List.nodup_append] at ND
      exact ND.2.2 k q k (opt_mem.2 hk) rfl
    · exact nG (by rw [← List.mem_singleton.1 q]; exact List.mem_append_right _ (opt_mem.2 hk))
  · intro k hk
    rcases List.mem_append.1 hk with q | q
    · rcases hb with t | t
      · exact .inl (List.mem_append_left _ (by rw [← t]; exact q))
      · exact .inr (t k (opt_mem.1 q))
    · exact .inl (List.mem_append_right _ q)
  · show (u.ownBlock.toList ++ L[i].k.ownBlock.toList).Nodup
    rw [List.nodup_append]
    refine ⟨opt_nodup _, opt_nodup _, fun a ha' b hb' e => ?_⟩
    subst e
    exact uK a (opt_mem.1 ha') (opt_mem.1 hb')
/-- Its children lie elsewhere now, or are others. -/
theorem OwnD.putK {base : Nat} {w : World} {v : Value} {L : List NdV} (h : OwnD base w v L) {G : Nat} (hG : v.ownBlock = some G) {i : Nat} (hi : i < L.length) {w1 : World} {u : Value} {ks : List Int} (hc : Chg L[i].k.ownBlock.toList w w1) (hk' : KidsO base w1 u ks)
    (hb : u.ownBlock = L[i].k.ownBlock ∨ ∀ k, u.ownBlock = some k → w.heap.size ≤ k) : OwnD base (w1.setCell ⟨G, i * 5 + 4, none⟩ u) v (L.set i ⟨{ L[i].n with kids := ks }, L[i].a, u⟩) := by
  have nG := own_ne h hi hG
  have ND := blks_nodup h hi
  have hlt : G < w.heap.size := (h.row.lt G hG).2
  have AK : ∀ k, L[i].a.ownBlock = some k → k < w.heap.size := fun k hk => (World.ownsRow.lt (h.at_ L[i] (List.getElem_mem hi)) k hk).2
  have uG : ∀ k, u.ownBlock = some k → k ≠ G := by
    intro k hk e
    subst e
    rcases hb with q | q
    · exact nG (List.mem_append_right _ (opt_mem.2 (by rw [← q]; exact hk)))
    · have := q k hk; omega
  have uK : ∀ k, u.ownBlock = some k → L[i].a.ownBlock ≠ some k := by
    intro k hk e
    rcases hb with q | q
    · unfold blks at ND
      rw [List.nodup_append] at ND
      exact ND.2.2 k (opt_mem.2 e) k (opt_mem.2 (by rw [← q]; exact hk)) rfl
    · have := q k hk; have := AK k e; omega
  refine h.put hi (S := G :: L[i].k.ownBlock.toList) ((hc.mono (fun k q _ => List.mem_cons_of_mem _ q)).trans ((Chg.setB _ _ _ _).mono (fun k q _ => by rw [List.mem_singleton.1 q]; exact List.mem_cons_self ..))) ?_ ?_ ?_ ?_ ?_ ?_
  · intro k q _
    rcases List.mem_cons.1 q with t | t
    · exact .inl (by rw [t]; exact hG)
    · exact .inr (List.mem_append_right _ t)
  · have r := owns_set (owns_kept h.row hc (fun k hk q => by
      have e : G = k := Option.some.inj (hG.symm.trans hk)
      exact nG (List.mem_append_right _ (by rw [e]; exact q)))) hG (i * 5 + 4) u
    rw [cellsV_set hi (x' := ⟨{ L[i].n with kids := ks }, L[i].a, u⟩) (by omega) rfl] at r
    exact r
  · refine owns_kept (owns_kept (h.at_ L[i] (List.getElem_mem hi)) hc (fun k hk q => ?_)) (Chg.setB _ _ _ _) (fun k hk q => ?_)
    · unfold blks at ND
      rw [List.nodup_append] at ND
      exact ND.2.2 k (opt_mem.2 hk) k q rfl
    · exact nG (by rw [← List.mem_singleton.1 q]; exact List.mem_append_left _ (opt_mem.2 hk))
  · exact owns_kept hk' (Chg.setB _ _ _ _) (fun k hk q => uG k hk (List.mem_singleton.1 q))
  · intro k hk
    rcases List.mem_append.1 hk with q | q
    · exact .inl (List.mem_append_left _ q)
    · rcases hb with t | t
      · exact .inl (List.mem_append_right _ (by rw [← t]; exact q))
      · exact .inr (t k (opt_mem.1 q))
  · show (L[i].a.ownBlock.toList ++ u.ownBlock.toList).Nodup
    rw [List.nodup_append]
    refine ⟨opt_nodup _, opt_nodup _, fun a ha' b hb' e => ?_⟩
    subst e
    exact uK a (opt_mem.1 hb') (opt_mem.1 ha')
/-- It has another parent. -/
theorem OwnD.putP {base : Nat} {w : World} {v : Value} {L : List NdV} (h : OwnD base w v L) {G : Nat} (hG : v.ownBlock = some G) {i : Nat} (hi : i < L.length) (z : Int) : OwnD base (w.setCell ⟨G, i * 5 + 3, none⟩ (.int .i64 z)) v (L.set i ⟨{ L[i].n with parent := z }, L[i].a, L[i].k⟩) := by
  have nG := own_ne h hi hG
  refine h.put hi (S := [G]) (Chg.setB _ _ _ _) ?_ ?_ ?_ ?_ (fun k hk => .inl hk) (blks_nodup h hi)
  · intro k q _
    exact .inl (by rw [List.mem_singleton.1 q]; exact hG)
  · have r := owns_set h.row hG (i * 5 + 3) (.int .i64 z)
    rw [cellsV_set hi (x' := ⟨{ L[i].n with parent := z }, L[i].a, L[i].k⟩) (by omega) rfl] at r
    exact r
  · exact owns_kept (h.at_ L[i] (List.getElem_mem hi)) (Chg.setB _ _ _ _) (fun k hk q => nG (by rw [← List.mem_singleton.1 q]; exact List.mem_append_left _ (opt_mem.2 hk)))
  · exact owns_kept (h.ks L[i] (List.getElem_mem hi)) (Chg.setB _ _ _ _) (fun k hk q => nG (by rw [← List.mem_singleton.1 q]; exact List.mem_append_right _ (opt_mem.2 hk)))
theorem cellsV_same {L : List NdV} {i : Nat} (hi : i < L.length) {x' : NdV} (e : cellsN x' = cellsN L[i]) : cellsV (L.set i x') = cellsV L := by
  obtain ⟨A, B, e1, e2⟩ := set_mid hi x'
  rw [e2]
  conv => rhs; rw [e1]
  simp only [cellsV, List.flatMap_append, List.flatMap_cons, e]
/-- Its attributes are others, where they lay. -/
theorem OwnD.inA {base : Nat} {w w1 : World} {v : Value} {L : List NdV} (h : OwnD base w v L) {i : Nat} (hi : i < L.length) {ax : List (ByteArray × ByteArray)} (hc : Chg L[i].a.ownBlock.toList w w1) (ha : AttrsO base w1 L[i].a ax) (hG : v.ownBlock ≠ none) : OwnD base w1 v (L.set i ⟨{ L[i].n with attrs := ax }, L[i].a, L[i].k⟩) := by
  obtain ⟨G, hG⟩ : ∃ G, v.ownBlock = some G := by
    cases q : v.ownBlock with
    | none => exact absurd q hG
    | some G => exact ⟨G, rfl⟩
  have nG := own_ne h hi hG
  have ND := blks_nodup h hi
  refine h.put hi hc (fun k q _ => .inr (List.mem_append_left _ q)) ?_ ha ?_ (fun k hk => .inl hk) ND
  · rw [cellsV_same hi (x' := ⟨{ L[i].n with attrs := ax }, L[i].a, L[i].k⟩) rfl]
    exact owns_kept h.row hc (fun k hk q => by
      have e : G = k := Option.some.inj (hG.symm.trans hk)
      exact nG (List.mem_append_left _ (by rw [e]; exact q)))
  · refine owns_kept (h.ks L[i] (List.getElem_mem hi)) hc (fun k hk q => ?_)
    unfold blks at ND
    rw [List.nodup_append] at ND
    exact ND.2.2 k q k (opt_mem.2 hk) rfl

end Go.Proofs.Ytkloahpkjbohoaa
