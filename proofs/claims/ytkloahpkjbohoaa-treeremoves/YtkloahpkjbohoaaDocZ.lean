/- Right documents have lengths that a machine has; of none, too. No condition. -/
import Derived.Test.YtkloahpkjbohoaaDocCP
namespace Go.Proofs.Ytkloahpkjbohoaa
open Go.RowKit

theorem right_sz {l : List Nd} (h : Right l) : DocSz l := by
  refine ⟨by have := h.len; omega, fun n hn => ?_⟩
  obtain ⟨i, hi, rfl⟩ := List.getElem_of_mem hn
  have := right_texts h hi
  refine ⟨?_, ?_, fun a ha => ?_, ?_, ?_⟩
  · unfold maxLen; omega
  · unfold maxLen; omega
  · have := this.2.2.1 a ha
    unfold maxLen; omega
  · omega
  · omega
theorem nil_sz : DocSz [] := ⟨by simp, fun n hn => by cases hn⟩
theorem nodes_nil (w : World) : NodesV w (.slice none 0 0) [] := ⟨none, 0, rfl, .inl rfl⟩

end Go.Proofs.Ytkloahpkjbohoaa
