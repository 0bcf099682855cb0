/- One to four digits as a number. The example of layer 15's statements, and how long the states are that its functions answer. -/
import Derived.Test.YtdbabciafifnaaaGreatDoorJvb24

namespace Go.Proofs.YtdbabciafifnaaaGreatDoor
open Go.RowKit
theorem size_text {l : List Nd} (h : Right l) : ∀ (ks : List Int) (s : ByteArray), (∀ c ∈ ks, 0 ≤ c ∧ c < (l.length : Int)) → (textF l s ks).size ≤ s.size + 4000 * ks.length
  | [], s, _ => by show s.size ≤ _; omega
  | c :: t, s, hc => by
    have h1 := hc c (List.mem_cons_self ..)
    have := size_text h t (s ++ (nd l c.toNat).text) (fun x hx => hc x (List.mem_cons_of_mem _ hx))
    have h2 := text_small h (i := c.toNat) (by omega)
    rw [ByteArray.size_append] at this
    show (textF l (s ++ (nd l c.toNat).text) t).size ≤ _
    rw [List.length_cons]; omega
theorem textP_small {l : List Nd} (h : Right l) {m : Nat} (hm : m < l.length) : (textP l (m : Int)).size ≤ 1604000 := by
  have h1 := size_text h (nd l m).kids (nd l m).text (fun c hc => by have := h.kid m hm c hc; exact ⟨this.1, this.2.1⟩)
  have h2 := text_small h hm
  have h3 := kids_few h hm
  unfold textP
  rw [Int.toNat_natCast]; omega
end Go.Proofs.YtdbabciafifnaaaGreatDoor

namespace Go.Proofs.YtdbabciafifnaaaGreatDoor
open Go.RowKit
/-- States that differ in flags alone. -/
structure Alike (C D : List Ct) : Prop where
  len : D.length = C.length
  at_ : ∀ i (h : i < D.length), ∃ c ∈ C, D[i].files = c.files ∧ D[i].val = c.val ∧ D[i].custom = c.custom
theorem Alike.ok {C D : List Ct} (a : Alike C D) (h : CsOK C) : CsOK D := by
  refine ⟨by rw [a.len]; exact h.len, fun c hc => ?_, fun c hc => ?_⟩
  · obtain ⟨i, hi, rfl⟩ := List.getElem_of_mem hc
    obtain ⟨c, hm, e, _⟩ := a.at_ i hi
    rw [e]; exact h.fs c hm
  · obtain ⟨i, hi, rfl⟩ := List.getElem_of_mem hc
    obtain ⟨c, hm, _, e1, e2⟩ := a.at_ i hi
    rw [e1, e2]; exact h.tx c hm
theorem Alike.refl (C : List Ct) : Alike C C := ⟨rfl, fun _ h => ⟨_, List.getElem_mem h, rfl, rfl, rfl⟩⟩
theorem Alike.trans {C D E : List Ct} (a : Alike C D) (b : Alike D E) : Alike C E := ⟨b.len.trans a.len, fun i h => by
  obtain ⟨d, hd, e1, e2, e3⟩ := b.at_ i h
  obtain ⟨j, hj, rfl⟩ := List.getElem_of_mem hd
  obtain ⟨c, hc, f1, f2, f3⟩ := a.at_ j hj
  exact ⟨c, hc, e1.trans f1, e2.trans f2, e3.trans f3⟩⟩

end Go.Proofs.YtdbabciafifnaaaGreatDoor
