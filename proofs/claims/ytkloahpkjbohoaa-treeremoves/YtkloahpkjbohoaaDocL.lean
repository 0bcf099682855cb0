/- Attributes that are set, or taken away: the document stays right, and tells them then; plain facts of no program. No condition. -/
import Derived.Test.YtkloahpkjbohoaaDocK
namespace Go.Proofs.Ytkloahpkjbohoaa
open Go.RowKit

theorem right_attrs {l : List Nd} (h : Right l) {id : Nat} (hi : id < l.length) (hn : ¬ (nd l id).name.size = 0) {ax : List (ByteArray × ByteArray)} (ha : AttrsOk ax) (hl : ax.length ≤ 40) : Right (upd l id fun n => { n with attrs := ax }) := by
  have hlen := upd_len l id fun n => { n with attrs := ax }
  have par : ∀ i, (nd (upd l id fun n => { n with attrs := ax }) i).parent = (nd l i).parent := by
    intro i
    rw [nd_upd _ hi]; split
    · rename_i e; rw [e]
    · rfl
  have kids : ∀ i, (nd (upd l id fun n => { n with attrs := ax }) i).kids = (nd l i).kids := by
    intro i
    rw [nd_upd _ hi]; split
    · rename_i e; rw [e]
    · rfl
  have name : ∀ i, (nd (upd l id fun n => { n with attrs := ax }) i).name = (nd l i).name := by
    intro i
    rw [nd_upd _ hi]; split
    · rename_i e; rw [e]
    · rfl
  have pI : ∀ k, parI (upd l id fun n => { n with attrs := ax }) k = parI l k := fun k => par k.toNat
  refine ⟨by rw [hlen]; exact h.len, by rw [name]; exact h.head, by rw [par]; exact h.root, fun i q => ?_, fun i q => ?_, fun i q r => ?_, fun i q c hc => ?_, fun i q => ?_⟩
  · rw [hlen] at q
    rw [nd_upd _ hi]; split
    · have h1 := h.alone id hi
      unfold aloneB at h1 ⊢
      rw [if_neg hn, Bool.and_eq_true, Bool.and_eq_true] at h1
      show (if (nd l id).name.size = 0 then _ else nameOk (nd l id).name && ((nd l id).text.size == 0 && (decide (ax.length ≤ 40) && (List.range ax.length).all (attrOk ax)))) = true
      rw [if_neg hn, h1.1, h1.2.1, decide_eq_true hl, (attrs_is ax).2 ha]; rfl
    · exact h.alone i q
  · rw [hlen] at q ⊢; rw [par]; exact h.par i q
  · rw [hlen] at q
    rw [par] at r ⊢
    rw [kids]; exact h.cnt i q r
  · rw [hlen] at q ⊢
    rw [kids] at hc
    rw [pI]; exact h.kid i q c hc
  · rw [hlen] at q
    have := h.ends i q
    show climb _ ((upd l id fun n => { n with attrs := ax }).length + 1) (i : Int) < 0
    rw [hlen, climb_same (l := l) _ _ (fun x _ => pI x)]
    exact this
theorem alone_attrs {n : Nd} (h : aloneB n = true) (hn : ¬ n.name.size = 0) : n.attrs.length ≤ 40 ∧ AttrsOk n.attrs := by
  unfold aloneB at h
  rw [if_neg hn, Bool.and_eq_true, Bool.and_eq_true, Bool.and_eq_true, decide_eq_true_eq] at h
  exact ⟨h.2.2.1, (attrs_is _).1 h.2.2.2⟩
/-- An attribute is set. -/
def setA (ax : List (ByteArray × ByteArray)) (n v : ByteArray) : List (ByteArray × ByteArray) := match findA ax n with
  | some k => ax.set k (n, v)
  | none => ax ++ [(n, v)]
theorem find_some {ax : List (ByteArray × ByteArray)} {n : ByteArray} {k : Nat} (h : findA ax n = some k) : ∃ hk : k < ax.length, ax[k].1 = n ∧ ∀ j (hj : j < k), ¬ ax[j].1 = n := by
  unfold findA at h
  obtain ⟨h1, h2, h3⟩ := List.findIdx?_eq_some_iff_getElem.1 h
  exact ⟨h1, by simpa using h2, fun j hj => by have := h3 j hj; simpa using this⟩
theorem find_not {ax : List (ByteArray × ByteArray)} {n : ByteArray} (h : findA ax n = none) : ∀ a ∈ ax, ¬ a.1 = n := by
  unfold findA at h
  rw [List.findIdx?_eq_none_iff] at h
  intro a ha
  simpa using h a ha
theorem set_names {ax : List (ByteArray × ByteArray)} {n v : ByteArray} {k : Nat} (hk : k < ax.length) (e : ax[k].1 = n) : (ax.set k (n, v)).map (·.1) = ax.map (·.1) := by
  refine List.ext_getElem (by simp) fun i h1 h2 => ?_
  rw [List.getElem_map, List.getElem_map, List.getElem_set]
  split
  · rename_i q; subst q; exact e.symm
  · rfl
theorem setA_ok {ax : List (ByteArray × ByteArray)} {n v : ByteArray} (h : AttrsOk ax) (hn : nameOk n = true) (hv : v.size ≤ 4000) : AttrsOk (setA ax n v) := by
  unfold setA
  cases hf : findA ax n with
  | some k =>
    obtain ⟨hk, e, _⟩ := find_some hf
    refine ⟨fun a ha => ?_, by show ((ax.set k (n, v)).map (·.1)).Nodup; rw [set_names hk e]; exact h.once⟩
    rcases List.mem_or_eq_of_mem_set ha with q | q
    · exact h.each a q
    · rw [q]; exact ⟨hn, hv⟩
  | none =>
    have hnot := find_not hf
    refine ⟨fun a ha => ?_, ?_⟩
    · rcases List.mem_append.1 ha with q | q
      · exact h.each a q
      · have : a = (n, v) := by simpa using q
        rw [this]; exact ⟨hn, hv⟩
    · show ((ax ++ [(n, v)]).map (·.1)).Nodup
      rw [List.map_append, List.nodup_append]
      refine ⟨h.once, by simp, fun x hx y hy e => ?_⟩
      obtain ⟨a, ha, rfl⟩ := List.mem_map.1 hx
      have : y = n := by simpa using hy
      exact hnot a ha (by rw [e, this])
theorem setA_len {ax : List (ByteArray × ByteArray)} {n v : ByteArray} (h : ax.length ≤ 40) (hf : findA ax n = none → ax.length < 40) : (setA ax n v).length ≤ 40 := by
  unfold setA
  cases e : findA ax n with
  | some k => show (ax.set k (n, v)).length ≤ 40; rw [List.length_set]; exact h
  | none => have := hf e; show (ax ++ [(n, v)]).length ≤ 40; rw [List.length_append]; simp; omega
theorem setA_told (ax : List (ByteArray × ByteArray)) (n v : ByteArray) : ∃ k, findA (setA ax n v) n = some k ∧ ((setA ax n v).getD k at0).2 = v := by
  unfold setA
  cases e : findA ax n with
  | some k =>
    obtain ⟨hk, e1, e2⟩ := find_some e
    refine ⟨k, ?_, ?_⟩
    · show findA (ax.set k (n, v)) n = some k
      unfold findA
      rw [List.findIdx?_eq_some_iff_getElem]
      refine ⟨by rw [List.length_set]; exact hk, by simp, fun j hj => ?_⟩
      rw [List.getElem_set_ne (by omega)]
      simpa using e2 j hj
    · show ((ax.set k (n, v)).getD k at0).2 = v
      simp [List.getD, hk]
  | none =>
    have hnot := find_not e
    refine ⟨ax.length, ?_, ?_⟩
    · show findA (ax ++ [(n, v)]) n = some ax.length
      unfold findA
      rw [List.findIdx?_eq_some_iff_getElem]
      refine ⟨by simp, by simp, fun j hj => ?_⟩
      rw [List.getElem_append_left hj]
      simpa using hnot ax[j] (List.getElem_mem _)
    · show ((ax ++ [(n, v)]).getD ax.length at0).2 = v
      simp [List.getD]
/-- An attribute is taken away. -/
def unsetA (ax : List (ByteArray × ByteArray)) (n : ByteArray) : List (ByteArray × ByteArray) := ax.filter fun a => decide (¬ a.1 = n)
theorem unsetA_ok {ax : List (ByteArray × ByteArray)} {n : ByteArray} (h : AttrsOk ax) : AttrsOk (unsetA ax n) := by
  unfold unsetA
  exact ⟨fun a ha => h.each a (List.mem_filter.1 ha).1, h.once.sublist (List.filter_sublist.map _)⟩
theorem unsetA_len (ax : List (ByteArray × ByteArray)) (n : ByteArray) : (unsetA ax n).length ≤ ax.length := List.length_filter_le _ _
theorem unsetA_told (ax : List (ByteArray × ByteArray)) (n : ByteArray) : findA (unsetA ax n) n = none := by
  unfold findA unsetA
  rw [List.findIdx?_eq_none_iff]
  intro a ha
  have := (List.mem_filter.1 ha).2
  simpa using this
def setP (l : List Nd) (id : Nat) (n v : ByteArray) : List Nd := upd l id fun x => { x with attrs := setA (nd l id).attrs n v }
def unsetP (l : List Nd) (id : Nat) (n : ByteArray) : List Nd := upd l id fun x => { x with attrs := unsetA (nd l id).attrs n }
theorem right_set {l : List Nd} (h : Right l) {id : Nat} (hi : id < l.length) (hn : ¬ (nd l id).name.size = 0) {n v : ByteArray} (h1 : nameOk n = true) (h2 : v.size ≤ 4000) (h3 : findA (nd l id).attrs n = none → (nd l id).attrs.length < 40) : Right (setP l id n v) := by
  obtain ⟨a1, a2⟩ := alone_attrs (h.alone id hi) hn
  exact right_attrs h hi hn (setA_ok a2 h1 h2) (setA_len a1 h3)
theorem right_unset {l : List Nd} (h : Right l) {id : Nat} (hi : id < l.length) (hn : ¬ (nd l id).name.size = 0) {n : ByteArray} : Right (unsetP l id n) := by
  obtain ⟨a1, a2⟩ := alone_attrs (h.alone id hi) hn
  exact right_attrs h hi hn (unsetA_ok a2) (Nat.le_trans (unsetA_len _ _) a1)
theorem set_told {l : List Nd} {id : Nat} (hi : id < l.length) (n v : ByteArray) : attrP (setP l id n v) id n = some v := by
  unfold attrP setP
  rw [Int.toNat_natCast, nd_upd _ hi, if_pos rfl]
  obtain ⟨k, h1, h2⟩ := setA_told (nd l id).attrs n v
  show (findA (setA (nd l id).attrs n v) n).map _ = some v
  rw [h1]
  exact congrArg some h2
theorem unset_told {l : List Nd} {id : Nat} (hi : id < l.length) (n : ByteArray) : attrP (unsetP l id n) id n = none := by
  unfold attrP unsetP
  rw [Int.toNat_natCast, nd_upd _ hi, if_pos rfl]
  show (findA (unsetA (nd l id).attrs n) n).map _ = none
  rw [unsetA_told]; rfl

end Go.Proofs.Ytkloahpkjbohoaa
