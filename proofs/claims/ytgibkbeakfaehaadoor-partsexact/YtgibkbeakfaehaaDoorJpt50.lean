/- Entries told as parts, and parts read, as functions of lists. Stage 20's law PartsExact, walked. -/
import Derived.Test.YtgibkbeakfaehaaDoorJpt32

namespace Go.Proofs.YtgibkbeakfaehaaDoor
open Go.RowKit
theorem headU_ne {c : UInt8} (r : List UInt8) (h : c ≠ 37) : headU (c :: r) = none := by
  match r with
  | [] => rfl
  | [_] => rfl
  | a :: b :: _ =>
    show escU c a b = none
    unfold escU
    rw [if_neg (fun t => h t.1), if_neg (fun t => h t.1), if_neg (fun t => h t.1)]
/-- Without a % a name is read to what it was. -/
theorem un_nam : ∀ (l : List UInt8), (37 : UInt8) ∉ l → unL (namL l) = l
  | [], _ => rfl
  | c :: l, h => by
    have hc : c ≠ 37 := fun t => h (by rw [t]; exact List.mem_cons_self)
    have ih := un_nam l (fun t => h (List.mem_cons_of_mem _ t))
    show unL (nameB c ++ namL l) = c :: l
    unfold nameB
    by_cases h1 : c = 10
    · rw [if_pos h1]
      show unL (37 :: 48 :: 65 :: namL l) = _
      rw [unL_some (v := 10) (by rfl), h1]
      show 10 :: unL (namL l) = _
      rw [ih]
    · rw [if_neg h1]
      by_cases h2 : c = 13
      · rw [if_pos h2]
        show unL (37 :: 48 :: 68 :: namL l) = _
        rw [unL_some (v := 13) (by rfl), h2]
        show 13 :: unL (namL l) = _
        rw [ih]
      · rw [if_neg h2]
        by_cases h3 : c = 34
        · rw [if_pos h3]
          show unL (37 :: 50 :: 50 :: namL l) = _
          rw [unL_some (v := 34) (by rfl), h3]
          show 34 :: unL (namL l) = _
          rw [ih]
        · rw [if_neg h3]
          show unL (c :: namL l) = _
          rw [unL_none (headU_ne _ hc), ih]
theorem prs_free : ∀ (l : List UInt8) (p : UInt8), (37 : UInt8) ∉ l → (37 : UInt8) ∉ endsP [13, 10] p l
  | [], _, _ => by intro t; cases t
  | c :: l, p, h => by
    have ih := prs_free l c (fun t => h (List.mem_cons_of_mem _ t))
    show (37 : UInt8) ∉ piece [13, 10] p c ++ endsP [13, 10] c l
    rw [List.mem_append]
    rintro (t | t)
    · unfold piece at t
      split at t
      · cases t
      · split at t
        · simp at t
        · exact h (by rw [List.mem_singleton.1 t]; exact List.mem_cons_self)
    · exact ih t
theorem un_name {l : List UInt8} (h : (37 : UInt8) ∉ l) : unL (nameL l) = prsL l := un_nam _ (prs_free l 0 h)
end Go.Proofs.YtgibkbeakfaehaaDoor

namespace Go.Proofs.YtgibkbeakfaehaaDoor
open Go.RowKit
set_option maxRecDepth 100000
/-- An entry that is told just as it is. -/
def exE (e : En) : Prop := (37 : UInt8) ∉ bL e.name ∧ (37 : UInt8) ∉ bL e.fname ∧ (e.file = true → txt (typeL (bL e.typ)) = e.typ)
theorem told_ex {e : En} (h : exE e) : (toldE e).name = pairsS e.name ∧ (toldE e).file = e.file ∧ (e.file = true → (toldE e).val = e.val ∧ (toldE e).typ = e.typ ∧ (toldE e).fname = pairsS e.fname) ∧ (e.file = false → (toldE e).val = pairsS e.val) := by
  obtain ⟨h1, h2, h3⟩ := h
  refine ⟨?_, rfl, ?_, ?_⟩
  · show txt (unL (nameL (bL e.name))) = _
    rw [un_name h1]; rfl
  · intro f
    unfold toldE valP
    rw [f]
    refine ⟨rfl, h3 f, ?_⟩
    show txt (unL (nameL (bL e.fname))) = _
    rw [un_name h2]; rfl
  · intro f
    unfold toldE valP
    rw [f]; rfl
theorem mem_bL {t : ByteArray} {c : UInt8} (h : ∀ j (hj : j < t.size), t[j] ≠ c) : c ∉ bL t := fun q => by
  obtain ⟨i, hi, e⟩ := List.mem_iff_getElem.1 q
  rw [len_bL] at hi
  rw [at_bL hi] at e
  exact h i hi e

end Go.Proofs.YtgibkbeakfaehaaDoor
