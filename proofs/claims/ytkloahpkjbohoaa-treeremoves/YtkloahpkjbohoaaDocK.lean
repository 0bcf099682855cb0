/- A node that was taken away and put back where it was leaves the document as it was; attributes that are set and taken away leave it right; plain facts of no program. No condition. -/
import Derived.Test.YtkloahpkjbohoaaDocJ
namespace Go.Proofs.Ytkloahpkjbohoaa
open Go.RowKit

theorem docs_ext {l l' : List Nd} (hl : l'.length = l.length) (h : ∀ i, i < l.length → nd l' i = nd l i) : l' = l := by
  refine List.ext_getElem hl fun i h1 h2 => ?_
  have := h i h2
  unfold nd at this
  simpa [List.getD, h1, h2] using this
theorem par_ne {l : List Nd} (h : Right l) {c p : Nat} (hc : c < l.length) (hp : (nd l c).parent = (p : Int)) : ¬ p = c := by
  intro e
  subst e
  have := hgt_up (h.ends p hc) (by omega)
  unfold parI at this
  rw [Int.toNat_natCast, hp] at this
  omega
theorem put_none {c b : Int} : ∀ {ks : List Int}, b ∉ ks → (ks.flatMap fun k => if k = b then [c, k] else [k]) = ks
  | [], _ => rfl
  | k :: t, h => by
    have hk : ¬ k = b := fun e => h (by rw [e]; exact List.mem_cons_self ..)
    rw [List.flatMap_cons, if_neg hk, put_none (fun m => h (List.mem_cons_of_mem _ m))]; rfl
theorem put_back {A B : List Int} {c : Int} (hn : (-1 : Int) ∉ A ++ B) (hd : (A ++ B).Nodup) : putK (A ++ B) c (B.headD (-1)) = A ++ c :: B := by
  unfold putK
  cases B with
  | nil =>
    rw [List.append_nil] at hn ⊢
    show (A.flatMap fun k => if k = -1 then [c, k] else [k]) ++ (if (-1 : Int) = -1 then [c] else []) = A ++ [c]
    rw [put_none hn, if_pos rfl]
  | cons b t =>
    have hb : b ∉ A := fun m => by
      have := (List.nodup_append.1 hd).2.2 b m b (List.mem_cons_self ..)
      exact this rfl
    have ht : b ∉ t := (List.nodup_cons.1 (List.nodup_append.1 hd).2.1).1
    have h1 : ¬ b = -1 := fun e => hn (by rw [← e]; simp)
    show ((A ++ b :: t).flatMap fun k => if k = b then [c, k] else [k]) ++ (if b = -1 then [c] else []) = A ++ c :: b :: t
    rw [List.flatMap_append, put_none hb, List.flatMap_cons, if_pos rfl, put_none ht, if_neg h1]
    simp
theorem kids_nodup {l : List Nd} (h : Right l) {p : Nat} (hp : p < l.length) : (nd l p).kids.Nodup := by
  rw [List.nodup_iff_count]
  intro x
  by_cases m : x ∈ (nd l p).kids
  · have hk := h.kid p hp x m
    have hx : (nd l x.toNat).parent = (p : Int) := hk.2.2
    have := h.cnt x.toNat (by omega) (by rw [hx]; omega)
    rw [hx, Int.toNat_natCast, Int.toNat_of_nonneg hk.1] at this
    unfold cntI at this
    omega
  · rw [List.count_eq_zero.2 m]; omega
/-- There and back. -/
theorem ins_rem {l : List Nd} (h : Right l) {c p : Nat} (hc : c < l.length) (hp : (nd l c).parent = (p : Int)) {A B : List Int} (hk : (nd l p).kids = A ++ (c : Int) :: B) : insP (remP l c) p c (B.headD (-1)) = l := by
  have hb := h.par c hc
  have hpl : p < l.length := by omega
  have hne := par_ne h hc hp
  have hnd := kids_nodup h hpl
  rw [hk] at hnd
  have hcA : (c : Int) ∉ A := fun m => (List.nodup_append.1 hnd).2.2 _ m _ (List.mem_cons_self ..) rfl
  have hcB : (c : Int) ∉ B := (List.nodup_cons.1 (List.nodup_append.1 hnd).2.1).1
  have hfil : (nd l p).kids.filter (fun x => decide (x ≠ (c : Int))) = A ++ B := by
    rw [hk, List.filter_append, List.filter_cons_of_neg (by simp), List.filter_eq_self.2 (fun x hx => by simpa using fun e : x = (c : Int) => hcA (e ▸ hx)), List.filter_eq_self.2 (fun x hx => by simpa using fun e : x = (c : Int) => hcB (e ▸ hx))]
  have hd2 : (A ++ B).Nodup := by rw [← hfil]; exact (kids_nodup h hpl).filter _
  have hm1 : (-1 : Int) ∉ A ++ B := fun m => by
    have : (-1 : Int) ∈ (nd l p).kids := by
      rw [hk]
      rcases List.mem_append.1 m with q | q
      · exact List.mem_append.2 (.inl q)
      · exact List.mem_append.2 (.inr (List.mem_cons_of_mem _ q))
    have := (h.kid p hpl (-1) this).1
    omega
  have ecut : cutK l c = upd l p fun n => { n with kids := n.kids.filter fun x => decide (x ≠ (c : Int)) } := by
    unfold cutK
    rw [if_neg (by omega), hp, Int.toNat_natCast]
  have ncut : ∀ i, nd (cutK l c) i = if i = p then { nd l p with kids := A ++ B } else nd l i := by
    intro i
    rw [ecut, nd_upd _ hpl, hfil]
  have lcut : (cutK l c).length = l.length := cutK_len l c
  have nrem : ∀ i, nd (remP l c) i = if i = c then { nd l c with parent := -1 } else if i = p then { nd l p with kids := A ++ B } else nd l i := by
    intro i
    unfold remP
    rw [nd_upd _ (by omega)]
    by_cases e : i = c
    · rw [if_pos e, if_pos e, ncut c, if_neg (fun q : c = p => hne q.symm)]
    · rw [if_neg e, if_neg e, ncut i]
  have lrem : (remP l c).length = l.length := by unfold remP; rw [upd_len, lcut]
  have ecut2 : cutK (remP l c) c = remP l c := by
    unfold cutK
    rw [if_pos]
    rw [nrem, if_pos rfl]
    show (-1 : Int) < 0
    omega
  unfold insP
  rw [ecut2]
  refine docs_ext (by rw [upd_len, upd_len, lrem]) fun i hi => ?_
  rw [nd_upd _ (by rw [upd_len]; omega)]
  by_cases e1 : i = c
  · rw [if_pos e1, nd_upd _ (by omega), if_neg (fun q : c = p => hne q.symm), nrem c, if_pos rfl, e1]
    show ({ nd l c with parent := (p : Int) } : Nd) = nd l c
    rw [← hp]
  · rw [if_neg e1, nd_upd _ (by omega)]
    by_cases e2 : i = p
    · rw [if_pos e2, nrem p, if_neg hne, if_pos rfl, e2]
      show ({ nd l p with kids := putK (A ++ B) c (B.headD (-1)) } : Nd) = nd l p
      rw [put_back hm1 hd2, ← hk]
    · rw [if_neg e2, nrem i, if_neg e1, if_neg e2]

/-- Attributes: names formed so, each once; values not too long. -/
structure AttrsOk (ax : List (ByteArray × ByteArray)) : Prop where
  each : ∀ a ∈ ax, nameOk a.1 = true ∧ a.2.size ≤ 4000
  once : (ax.map (·.1)).Nodup
theorem find_first {ax : List (ByteArray × ByteArray)} {i : Nat} (hi : i < ax.length) : findA ax ax[i].1 = some i ↔ ∀ j (h : j < i), ¬ ax[j].1 = ax[i].1 := by
  unfold findA
  rw [List.findIdx?_eq_some_iff_getElem]
  constructor
  · rintro ⟨_, _, h⟩ j hj
    have := h j hj
    simpa using this
  · intro h
    exact ⟨hi, by simp, fun j hj => by simpa using h j hj⟩
theorem attrs_is (ax : List (ByteArray × ByteArray)) : (List.range ax.length).all (attrOk ax) = true ↔ AttrsOk ax := by
  have at1 : ∀ i (hi : i < ax.length), attrOk ax i = true ↔ nameOk ax[i].1 = true ∧ ax[i].2.size ≤ 4000 ∧ ∀ j (h : j < i), ¬ ax[j].1 = ax[i].1 := by
    intro i hi
    unfold attrOk
    rw [show ax.getD i at0 = ax[i] by simp [List.getD, hi], Bool.and_eq_true, Bool.and_eq_true, decide_eq_true_eq, beq_iff_eq, find_first hi]
  rw [List.all_eq_true]
  constructor
  · intro h
    refine ⟨fun a ha => ?_, ?_⟩
    · obtain ⟨i, hi, rfl⟩ := List.getElem_of_mem ha
      have := (at1 i hi).1 (h i (List.mem_range.2 hi))
      exact ⟨this.1, this.2.1⟩
    · rw [List.nodup_iff_pairwise_ne, List.pairwise_iff_getElem]
      intro i j h1 h2 hij
      rw [List.getElem_map, List.getElem_map]
      rw [List.length_map] at h1 h2
      exact ((at1 j h2).1 (h j (List.mem_range.2 h2))).2.2 i hij
  · intro h i hi
    have hi := List.mem_range.1 hi
    refine (at1 i hi).2 ⟨(h.each _ (List.getElem_mem _)).1, (h.each _ (List.getElem_mem _)).2, fun j hj e => ?_⟩
    have := h.once
    rw [List.nodup_iff_pairwise_ne, List.pairwise_iff_getElem] at this
    have := this j i (by rw [List.length_map]; omega) (by rw [List.length_map]; omega) hj
    rw [List.getElem_map, List.getElem_map] at this
    exact this e

end Go.Proofs.Ytkloahpkjbohoaa
