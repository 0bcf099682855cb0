/- A region that draws its order, walked once an operation. Stage 24's law SubmitMakes, walked. -/
import Derived.Test.YtnojgejcmaajmaaGreatDoorJsb21

namespace Go.Proofs.YtnojgejcmaajmaaGreatDoor
open Go.RowKit
theorem count_put {l : Array Bool} {i : Nat} {n : Nat} (h : l.getD i true = false) (hc : l.toList.count false ≤ n + 1) : (l.setIfInBounds i true).toList.count false ≤ n := by
  have hi : i < l.size := by
    rcases Nat.lt_or_ge i l.size with t | t
    · exact t
    · rw [Array.getD_eq_getD_getElem?, Array.getElem?_eq_none t] at h; cases h
  have hv : l.toList[i]'(by simpa using hi) = false := by
    rw [Array.getD_eq_getD_getElem?, Array.getElem?_eq_getElem hi] at h
    simpa using h
  rw [Array.toList_setIfInBounds, List.count_set (by simpa using hi), hv]
  show List.count false l.toList - 1 + 0 ≤ n
  omega
theorem none_left {md : Region.Mode} {ops : Array Oper} {l : Array Bool} (hc : l.toList.count false = 0) : Region.ready md ops l = [] := by
  refine List.eq_nil_iff_forall_not_mem.2 fun j hj => ?_
  have h := (mem_ready.1 hj).1
  have hi : j < l.size := by
    rcases Nat.lt_or_ge j l.size with t | t
    · exact t
    · rw [Array.getD_eq_getD_getElem?, Array.getElem?_eq_none t] at h; cases h
  have hv : l.toList[j]'(by simpa using hi) = false := by
    rw [Array.getD_eq_getD_getElem?, Array.getElem?_eq_getElem hi] at h
    simpa using h
  exact List.count_eq_zero.1 hc (hv ▸ List.getElem_mem _)
theorem wpAnyH_inv {P : Program} {md : Region.Mode} {ops : Array Oper} {Q : Exit → Act → World → Prop} {S : World → Prop} (I : Array Bool → Act → World → Prop)
    (hs : ∀ listed a w i o, I listed a w → S w → ops[i]? = some o → listed.getD i true = false → (∀ e ∈ o.after, Region.binds md e = true → listed.getD e.on false = true) →
      ∀ K : Act → World → Prop, Shut (∀ a w, S w → I (listed.setIfInBounds i true) a w → K a w) → if Region.wanted o (yielded ops a.tmps) = true then Oper.wp P o a w K Q else K (a.put o.dst undef) w)
    (he : ∀ listed a w, I listed a w → S w → Region.ready md ops listed = [] → Q .normal a w) :
    ∀ (fuel : Nat) (listed : Array Bool) (a : Act) (w : World), listed.toList.count false ≤ fuel → I listed a w → S w → wpAnyH P md ops Q S fuel listed a w := by
  intro fuel
  induction fuel with
  | zero =>
    intro listed a w hc hI hS
    have hr : Region.ready md ops listed = [] := none_left (Nat.le_zero.1 hc)
    exact ⟨hr, he listed a w hI hS hr⟩
  | succ fuel ih =>
    intro listed a w hc hI hS
    refine ⟨fun hr => he listed a w hI hS hr, fun i hi => ?_⟩
    obtain ⟨hu, o, ho, hd⟩ := mem_ready.1 hi
    exact wpOp_step ho (fun K hK => hs listed a w i o hI hS ho hu hd K (fun a w hS hI => hK a w ⟨hS, ih _ a w (count_put hu hc) hI hS⟩))
end Go.Proofs.YtnojgejcmaajmaaGreatDoor

namespace Go.Proofs.YtnojgejcmaajmaaGreatDoor
open Go.RowKit
set_option maxRecDepth 100000
structure MkI (wz W : World) (l : List Nd) (C : List Ct) (es : List En) (ds : List ByteArray) (pv : List Value) (pe : Int) (d1 d6 d8 d9 d12 d13 d14 d15 d16 d17 d18 d19 : Bool) (x1 x6 x8 x9 x12 x13 x14 x15 x16 x17 x19 : Value) : Prop where
  bel : Below wz.heap.size wz W
  f1 : d1 = true → d13 = false → ∃ nv cv, x1 = .agg #[nv, cv] ∧ DocV W nv cv l C
  f6 : d6 = true → ∃ E : Nat, x6 = .slice (some ⟨E, 0, none⟩) 0 0
  f8 : d8 = true → d13 = false → FilesV W x8 es
  f9 : d9 = true → ∃ E : Nat, x9 = .slice (some ⟨E, 0, none⟩) 0 0
  f12 : d12 = true → d13 = false → DrawsV W x12 ds
  f13 : d13 = true → x13 = .tuple #[.agg pv.toArray, .int .i64 pe]
  f14 : d14 = true → x14 = .tuple #[.agg pv.toArray, .int .i64 pe]
  f15 : d15 = true → x15 = .agg pv.toArray
  f16 : d16 = true → x16 = .int .i64 pe
  f17 : d17 = true → ∃ E : Nat, wz.heap.size ≤ E ∧ x17 = .pointer (some ⟨E, 0, none⟩) ∧ Bk W E (if d18 = true then pv else [.string ⟨#[]⟩, .string ⟨#[]⟩, .string ⟨#[]⟩, .string ⟨#[]⟩, .string ⟨#[]⟩]) 33
  f19 : d19 = true → x19 = .int .i64 pe
  s18 : d18 = true → d17 = true
theorem MkI.below {wz W W' : World} {l : List Nd} {C : List Ct} {es : List En} {ds : List ByteArray} {pv : List Value} {pe : Int} {d1 d6 d8 d9 d12 d13 d14 d15 d16 d17 d18 d19 : Bool} {x1 x6 x8 x9 x12 x13 x14 x15 x16 x17 x19 : Value} (h : MkI wz W l C es ds pv pe d1 d6 d8 d9 d12 d13 d14 d15 d16 d17 d18 d19 x1 x6 x8 x9 x12 x13 x14 x15 x16 x17 x19) (b : Below W.heap.size W W') : MkI wz W' l C es ds pv pe d1 d6 d8 d9 d12 d13 d14 d15 d16 d17 d18 d19 x1 x6 x8 x9 x12 x13 x14 x15 x16 x17 x19 :=
  { bel := chain h.bel b
    f1 := fun t u => by obtain ⟨nv, cv, e, D⟩ := h.f1 t u; exact ⟨nv, cv, e, D.below b⟩
    f6 := h.f6
    f8 := fun t u => (h.f8 t u).below b
    f9 := h.f9
    f12 := fun t u => (h.f12 t u).below b
    f13 := h.f13
    f14 := h.f14
    f15 := h.f15
    f16 := h.f16
    f17 := fun t => by obtain ⟨E, g, e, D⟩ := h.f17 t; exact ⟨E, g, e, D.below b⟩
    f19 := h.f19
    s18 := h.s18 }
theorem rdy {md : Region.Mode} {ops : Array Oper} {l : Array Bool} {i : Nat} {o : Oper} (hr : Region.ready md ops l = []) (ho : ops[i]? = some o) (hd : ∀ e ∈ o.after, Region.binds md e = true → l.getD e.on false = true) : l.getD i true = true := by
  cases h : l.getD i true with
  | true => rfl
  | false =>
    have m : i ∈ Region.ready md ops l := mem_ready.2 ⟨h, o, ho, hd⟩
    rw [hr] at m; cases m
theorem bel_drw {B : Nat} {a w : World} (h : Below B a w) : Below B a w.drew := ⟨h.os, h.tape, h.output, h.size, h.block⟩

end Go.Proofs.YtnojgejcmaajmaaGreatDoor
