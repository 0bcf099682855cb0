/- Entries in a row of the call's own. -/
import Derived.Test.YtgibkbeakfaehaaDoorJpt23

namespace Go.Proofs.YtgibkbeakfaehaaDoor
open Go.RowKit
set_option maxRecDepth 100000
theorem wpList_append_en0 {ops : Array Oper} {rest : List Oper} {o : Oper} {a : Act} {w : World} {Q : Exit → Act → World → Prop} (hgd : o.guard = none) (s x : Operand)
    (ho : o.op = .call { callee := .builtin .append, args := #[s, x], argTypes := #[22, 22] })
    (base : Nat) (v : Value) (hs : a.eval s = v) (hown : OwnR base w v []) (sv : Value) (gs : List En) (hx : a.eval x = sv) (hg : FilesV w sv gs)
    (hl : gs.length * 72 ≤ 140737488355328) (hbase : base ≤ w.heap.size)
    (h : ∀ q cp w', OwnR base w' (.slice q gs.length cp) gs → Below base w w' → wpList Tryd.prog ops Q rest (a.put o.dst (.slice q gs.length cp)) w') : wpList Tryd.prog ops Q (o :: rest) a w := by
  have e : ([] : List En).length + gs.length = gs.length := Nat.zero_add _
  refine wpList_append_en hgd s x ho base v [] hs hown sv gs hx hg (by rw [e]; exact hl) hbase ?_
  rw [e]
  exact h

end Go.Proofs.YtgibkbeakfaehaaDoor
