/- Paths to nodes, and the listeners that an event calls, as functions of documents and listeners. Listeners and calls as they lie in the world. -/
import Derived.Test.YtmobcijigiacoaaJev18

namespace Go.Proofs.Ytmobcijigiacoaa
open Go.RowKit
theorem at_app (n ph : Int) (k : ByteArray) (c : Bool) : ∀ (xs ys : List Ls) (i : Nat), atF n ph k c i (xs ++ ys) = atF n ph k c i xs ++ atF n ph k c (i + xs.length) ys
  | [], ys, i => by simp [atF]
  | x :: xs, ys, i => by
    show _ ++ atF n ph k c (i + 1) (xs ++ ys) = (_ ++ atF n ph k c (i + 1) xs) ++ _
    rw [at_app n ph k c xs ys (i + 1), List.append_assoc, List.length_cons, show i + 1 + xs.length = i + (xs.length + 1) by omega]
end Go.Proofs.Ytmobcijigiacoaa

namespace Go.Proofs.Ytmobcijigiacoaa
open Go.RowKit
theorem cellsL_one {xs : List Ls} {A : List Value} (h : ActsOK A) : ∀ u ∈ cellsL xs A, u.oneCell' = true := fun u hu => by
  obtain ⟨j, hj, rfl⟩ := List.getElem_of_mem hu
  have hj' : j < xs.length * 4 := by rw [cellsL_len] at hj; exact hj
  have hd := cellsL_at (A := A) (xs := xs) (i := j / 4) (by omega) (j := j % 4) (by omega)
  rw [show j / 4 * 4 + j % 4 = j by omega, List.getElem?_eq_getElem hj] at hd
  obtain ⟨p, n, c, e⟩ := h.sl (j / 4)
  have hm : (cellsL xs A)[j] ∈ lsCells (xs[j / 4]'(by omega)) (aAt A (j / 4)) := List.mem_of_getElem? hd.symm
  unfold lsCells at hm
  rw [e] at hm
  simp only [List.mem_cons, List.not_mem_nil, or_false] at hm
  rcases hm with h | h | h | h <;> rw [h] <;> rfl
theorem LsO.lsv {B : Nat} {w : World} {v : Value} {all : List Ls} {A : List Value} (h : LsO B w v all A) : LsF w v all A := by
  refine ⟨h.acts, ?_⟩
  by_cases h0 : all = []
  · rcases h.row.2 with ⟨rfl, _⟩ | ⟨g, cap, cur, rfl, _⟩
    · exact ⟨none, 0, by rw [h0]; rfl, .inl h0⟩
    · exact ⟨_, cap, rfl, .inl h0⟩
  · obtain ⟨g, cap, e, e2, _⟩ := owns_at h.row (List.length_pos_iff.2 h0)
    refine ⟨_, cap, e, .inr ⟨g, 0, rfl, fun i hi j u hu => ?_⟩⟩
    have hj : j < 4 := (List.getElem?_eq_some_iff.1 hu).1
    rw [Nat.zero_add]
    exact owns_cell h.row e2 ((cellsL_at hi hj).trans hu)
theorem info_lst : (Try.prog.info? 41).map (fun i => (i.zero, i.size, i.bytes)) = some (some (.agg #[.int .i64 0, .string ⟨#[]⟩, .bool false, .slice none 0 0]), 4, 56) := by kernel_rfl

end Go.Proofs.Ytmobcijigiacoaa
