/- Where the program puts a child is where the document puts it; plain facts of no program. No condition. -/
import Derived.Test.YtkloahpkjbohoaaDocK
import Derived.Test.YtkloahpkjbohoaaDocInsO
namespace Go.Proofs.Ytkloahpkjbohoaa
open Go.RowKit

theorem insI_is {ks : List Int} {c bf : Int} (hn : (-1 : Int) ∉ ks) (hd : ks.Nodup) (hb : bf = -1 ∨ bf ∈ ks) : insI ks (spot ks bf) c = putK ks c bf := by
  by_cases q : bf = -1
  · subst q
    unfold spot insI
    rw [if_pos rfl, List.take_length, List.drop_length]
    have := put_back (A := ks) (B := []) (c := c) (by rw [List.append_nil]; exact hn) (by rw [List.append_nil]; exact hd)
    rw [List.append_nil] at this
    exact this.symm
  · have hm : bf ∈ ks := by
      rcases hb with t | t
      · exact absurd t q
      · exact t
    obtain ⟨k, hk⟩ : ∃ k, idxI ks bf = some k := by
      have t := idxI_mem ks bf
      rw [decide_eq_true hm] at t
      cases r : idxI ks bf with
      | none => rw [r] at t; cases t
      | some k => exact ⟨k, rfl⟩
    have e : spot ks bf = k := by unfold spot; rw [if_neg q, hk]; rfl
    rw [e]
    unfold idxI at hk
    obtain ⟨hl, he, _⟩ := List.findIdx?_eq_some_iff_getElem.1 hk
    have he : ks[k] = bf := by simpa using he
    have := put_back (A := ks.take k) (B := ks.drop k) (c := c) (by rw [List.take_append_drop]; exact hn) (by rw [List.take_append_drop]; exact hd)
    rw [List.take_append_drop, List.drop_eq_getElem_cons hl] at this
    have h2 : (ks[k] :: ks.drop (k + 1)).headD (-1) = bf := he
    rw [h2, ← List.drop_eq_getElem_cons hl] at this
    exact this.symm
theorem insQ_is {l : List Nd} (h : Right l) {p c : Nat} {bf : Int} (hp : p < l.length) (hc : c < l.length) (hne : ¬ c = p) (hb : bf = -1 ∨ (¬ bf = (c : Int) ∧ bf ∈ (nd l p).kids)) : insQ l p c bf = insP l p c bf := by
  have lc : (cutK l c).length = l.length := cutK_len l c
  have lr : (remP l c).length = l.length := by unfold remP; rw [upd_len, lc]
  have nr : ∀ i, nd (remP l c) i = if i = c then { nd (cutK l c) c with parent := -1 } else nd (cutK l c) i := by
    intro i
    unfold remP
    rw [nd_upd _ (by omega)]
  have hk := rem_kids_is h (p := p) hc
  have hm1 : (-1 : Int) ∉ (nd l p).kids := fun m => by have := (h.kid p hp (-1) m).1; omega
  have hnk := kids_nodup h hp
  have hpc : ¬ p = c := fun e => hne e.symm
  have K1 : (-1 : Int) ∉ (nd (remP l c) p).kids := by
    rcases hk with e | e
    · rw [e]; exact hm1
    · rw [e]; exact fun m => hm1 (List.mem_filter.1 m).1
  have K2 : (nd (remP l c) p).kids.Nodup := by
    rcases hk with e | e
    · rw [e]; exact hnk
    · rw [e]; exact hnk.filter _
  have K3 : bf = -1 ∨ bf ∈ (nd (remP l c) p).kids := by
    rcases hb with t | ⟨t1, t2⟩
    · exact .inl t
    · refine .inr ?_
      rcases hk with e | e
      · rw [e]; exact t2
      · rw [e]; exact List.mem_filter.2 ⟨t2, by simpa using t1⟩
  have E := insI_is (c := (c : Int)) K1 K2 K3
  rw [nr p, if_neg hpc] at E
  unfold insQ insP
  refine docs_ext (by rw [upd_len, upd_len, upd_len, upd_len, lr, lc]) fun i hi => ?_
  rw [nd_upd _ (show c < _ by rw [upd_len]; omega), nd_upd _ (show c < _ by rw [upd_len]; omega)]
  by_cases e1 : i = c
  · rw [if_pos e1, if_pos e1, nd_upd _ (by omega), nd_upd _ (by omega), if_neg hne, if_neg hne, nr c, if_pos rfl]
  · rw [if_neg e1, if_neg e1, nd_upd _ (by omega), nd_upd _ (by omega)]
    by_cases e2 : i = p
    · rw [if_pos e2, if_pos e2, nr p, if_neg hpc, E]
    · rw [if_neg e2, if_neg e2, nr i, if_neg e1]

end Go.Proofs.Ytkloahpkjbohoaa
