/- A document that is copied node by node: some are the call's own already, the others lie where they lay. No condition. -/
import Derived.Test.YtkloahpkjbohoaaDocX
namespace Go.Proofs.Ytkloahpkjbohoaa
open Go.RowKit

theorem owns_same {w : World} {base : Nat} {e : TypeId} {size : Nat} {v : Value} {n : Nat} {xs : List Value} (h : w.ownsRow base e size v n xs) {g : Nat} (hg : v.ownBlock = some g) {j : Nat} {u : Value} (hu : xs[j]? = some u) : (w.setCell ⟨g, j, none⟩ u).ownsRow base e size v n xs := by
  have := owns_set h hg j u
  have e : xs.set j u = xs := by
    obtain ⟨hj, e⟩ := List.getElem?_eq_some_iff.1 hu
    rw [← e]; exact List.set_getElem_self hj
  rwa [e] at this
/-- The first ones are the call's own. -/
structure Half (base : Nat) (w : World) (v : Value) (D R : List NdV) : Prop where
  row : w.ownsRow base 45 5 v (D ++ R).length (cellsV (D ++ R))
  at_ : ∀ x ∈ D, AttrsO base w x.a x.n.attrs
  ks : ∀ x ∈ D, KidsO base w x.k x.n.kids
  sep : (v.ownBlock.toList ++ D.flatMap blks).Nodup
theorem Half.done {base : Nat} {w : World} {v : Value} {D : List NdV} (h : Half base w v D []) : OwnD base w v D := ⟨by have := h.row; rwa [List.append_nil] at this, h.at_, h.ks, h.sep⟩
theorem Half.lt {base : Nat} {w : World} {v : Value} {D R : List NdV} (h : Half base w v D R) {k : Nat} (hk : k ∈ v.ownBlock.toList ++ D.flatMap blks) : base ≤ k ∧ k < w.heap.size := by
  rcases List.mem_append.1 hk with q | q
  · exact h.row.lt k (opt_mem.1 q)
  · obtain ⟨x, h1, h2⟩ := List.mem_flatMap.1 q
    rcases List.mem_append.1 h2 with r | r
    · exact World.ownsRow.lt (h.at_ x h1) k (opt_mem.1 r)
    · exact World.ownsRow.lt (h.ks x h1) k (opt_mem.1 r)
theorem Half.next {base : Nat} {w w' : World} {v : Value} {D R : List NdV} {x x' : NdV} (h : Half base w v D (x :: R)) (hc : Chg v.ownBlock.toList w w') (hrow : w'.ownsRow base 45 5 v (D ++ x :: R).length (cellsV (D ++ x' :: R)))
    (ha : AttrsO base w' x'.a x'.n.attrs) (hk : KidsO base w' x'.k x'.n.kids) (hd : (blks x').Nodup) (hb : ∀ k ∈ blks x', w.heap.size ≤ k) : Half base w' v (D ++ [x']) R := by
  have hsep := h.sep
  rw [List.nodup_append] at hsep
  obtain ⟨s1, s2, s3⟩ := hsep
  have far : ∀ y ∈ D, ∀ k ∈ blks y, k ∉ v.ownBlock.toList := fun y hy k hk q => s3 k q k (List.mem_flatMap.2 ⟨y, hy, hk⟩) rfl
  have lt : ∀ k ∈ v.ownBlock.toList ++ D.flatMap blks, k < w.heap.size := fun k hk => (h.lt hk).2
  refine ⟨?_, ?_, ?_, ?_⟩
  · have e : D ++ [x'] ++ R = D ++ x' :: R := by simp
    rw [e]
    have e2 : (D ++ x' :: R).length = (D ++ x :: R).length := by simp
    rw [e2]; exact hrow
  · intro y hy
    rcases List.mem_append.1 hy with q | q
    · exact owns_kept (h.at_ y q) hc fun k hk => far y q k (List.mem_append_left _ (opt_mem.2 hk))
    · rw [List.mem_singleton.1 q]; exact ha
  · intro y hy
    rcases List.mem_append.1 hy with q | q
    · exact owns_kept (h.ks y q) hc fun k hk => far y q k (List.mem_append_right _ (opt_mem.2 hk))
    · rw [List.mem_singleton.1 q]; exact hk
  · rw [List.flatMap_append, List.flatMap_singleton, List.nodup_append]
    refine ⟨s1, ?_, fun a ha' b hb' e => ?_⟩
    · rw [List.nodup_append]
      refine ⟨s2, hd, fun a ha' b hb' e => ?_⟩
      have := lt a (List.mem_append_right _ ha')
      have := hb b hb'
      omega
    · subst e
      rcases List.mem_append.1 hb' with q | q
      · exact s3 a ha' a q rfl
      · have := lt a (List.mem_append_left _ ha')
        have := hb a q
        omega
/-- A document, its nodes with where their rows lie. -/
theorem nodes_raw {w : World} {v : Value} {l : List Nd} (h : NodesV w v l) : ∃ L : List NdV, ndsOf L = l ∧ Raw w 5 v l.length (cellsV L) ∧ (∀ x ∈ L, AttrsV w x.a x.n.attrs ∧ IntsV w x.k x.n.kids) ∧ ∀ x ∈ L, (∃ p n c, x.a = .slice p n c) ∧ ∃ p n c, x.k = .slice p n c := by
  obtain ⟨p, c, rfl, h⟩ := h
  rcases h with rfl | ⟨b, o, rfl, h⟩
  · exact ⟨[], rfl, ⟨rfl, p, c, rfl, .inl rfl⟩, (fun x q => by cases q), (fun x q => by cases q)⟩
  · have F : ∀ n, n ≤ l.length → ∃ L : List NdV, L.length = n ∧ ∀ i (hi : i < L.length) (hi2 : i < l.length), L[i].n = l[i] ∧ NodeAt w b (o + i * 5) L[i].n L[i].a L[i].k := by
      intro n
      induction n with
      | zero => intro _; exact ⟨[], rfl, fun i hi => absurd hi (Nat.not_lt_zero _)⟩
      | succ n ih =>
        intro hn
        obtain ⟨L, hL, hh⟩ := ih (by omega)
        obtain ⟨va, vk, hN⟩ := h n (by omega)
        refine ⟨L ++ [⟨l[n], va, vk⟩], by simp [hL], fun i hi hi2 => ?_⟩
        by_cases e : i < L.length
        · rw [List.getElem_append_left e]; exact hh i e hi2
        · have : i = n := by rw [List.length_append, List.length_singleton] at hi; omega
          subst this
          rw [List.getElem_append_right (by omega)]
          simp only [hL, Nat.sub_self, List.getElem_cons_zero]
          exact ⟨trivial, hN⟩
    obtain ⟨L, hL, hh⟩ := F l.length (Nat.le_refl _)
    have A : ∀ x ∈ L, ∃ (i : Nat) (hi : i < L.length), x = L[i] := fun x hx => by
      obtain ⟨i, hi, e⟩ := List.getElem_of_mem hx
      exact ⟨i, hi, e.symm⟩
    refine ⟨L, ?_, ⟨by rw [cellsV_len, hL], some ⟨b, o, none⟩, c, rfl, .inr ⟨b, o, rfl, fun j u hu => ?_⟩⟩, fun x hx => ?_, fun x hx => ?_⟩
    · refine List.ext_getElem (by rw [ndsOf_len, hL]) fun i h1 h2 => ?_
      rw [ndsOf_get h1]
      exact (hh i (by rw [hL]; exact h2) h2).1
    · have hj : j < L.length * 5 := by have := (List.getElem?_eq_some_iff.1 hu).1; rwa [cellsV_len] at this
      obtain ⟨i, k, hk, rfl⟩ : ∃ i k, k < 5 ∧ j = i * 5 + k := ⟨j / 5, j % 5, Nat.mod_lt _ (by omega), by omega⟩
      have hi : i < L.length := by omega
      rw [cellsV_at hi hk] at hu
      have N0 := (hh i hi (by omega)).2
      rw [← Nat.add_assoc]
      have e : k = 0 ∨ k = 1 ∨ k = 2 ∨ k = 3 ∨ k = 4 := by omega
      rcases e with rfl | rfl | rfl | rfl | rfl
      · cases hu; exact N0.name
      · cases hu; exact N0.text
      · cases hu; exact N0.attrs
      · cases hu; exact N0.parent
      · cases hu; exact N0.kids
    · obtain ⟨i, hi, rfl⟩ := A x hx
      have N0 := (hh i hi (by omega)).2
      exact ⟨N0.at_, N0.ks⟩
    · obtain ⟨i, hi, rfl⟩ := A x hx
      have N0 := (hh i hi (by omega)).2
      obtain ⟨p1, c1, e1, _⟩ := N0.at_
      obtain ⟨p2, c2, e2, _⟩ := N0.ks
      exact ⟨⟨p1, _, c1, e1⟩, p2, _, c2, e2⟩

end Go.Proofs.Ytkloahpkjbohoaa
