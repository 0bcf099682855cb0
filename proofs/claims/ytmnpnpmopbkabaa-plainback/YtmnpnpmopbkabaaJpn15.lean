/- Facts of no program. -/
import Derived.Test.YtmnpnpmopbkabaaJpn2

namespace Go.Proofs.Ytmnpnpmopbkabaa
open Go.RowKit
/-- The types of texts and of slices of texts. -/
structure TextTypes (P : Program) (t e : TypeId) : Prop where
  sl : P.underlying t = some (.slice e)
  el : P.underlying e = some .string
  info : (P.info? e).map (fun i => (i.zero, i.size, i.bytes)) = some (some (.string ⟨#[]⟩), 1, 16)
/-- 'out = append(out, s)', s a text: it was laid in a block of its own first. -/
theorem wpList_append_item {P : Program} {t e : TypeId} (tt : TextTypes P t e) {ops : Array Oper} {rest : List Oper} {o : Oper} {a : Act} {Q : Exit → Act → World → Prop} (w : World) (y : ByteArray)
    (hgd : o.guard = none) (s x : Operand) (ho : o.op = .call { callee := .builtin .append, args := #[s, x], argTypes := #[t, t] })
    (base : Nat) (v : Value) (l : List (List UInt8)) (c : List UInt8) (hy : y = txt c) (hs : a.eval s = v) (hown : OwnsT e base w v l)
    (hx : a.eval x = .slice (some ⟨w.heap.size, 0, none⟩) 1 1) (hlen : l.length ≤ 4398046511104) (hbase : base ≤ w.heap.size)
    (h : ∀ v' w', OwnsT e base w' v' (l ++ [c]) → Below base w w' → wpList P ops Q rest (a.put o.dst v') w') : wpList P ops Q (o :: rest) a (w.alloc (.cells #[.string y] e)) := by
  subst hy
  obtain ⟨i, hi, hz0, hz1, hz2⟩ := info_parts tt.info
  have hown' : (w.alloc (.cells #[.string (txt c)] e)).ownsRow base e 1 v l.length (l.map cellT) := World.ownsRow.alloc hown _
  refine wpList_append_own (P := P) _ hgd s x t ho base e i (.string ⟨#[]⟩) 1 16 tt.sl hi hz0 hz1 hz2 rfl (by decide) v l.length (l.map cellT) hs hown' ⟨w.heap.size, 0, none⟩ 1 1 [cellT c] hx rfl (cell_one_new _ _ _) (fun u hu => by simp at hu; subst hu; rfl) (by unfold maxLen; omega) (by omega) (by simp; omega) ?_
  intro v' w' h1 h2 _
  refine h v' w' ?_ (((Below.refl base w).alloc hbase _).trans (grown_below hown' h2 (by simp; omega)))
  simpa [OwnsT] using h1

end Go.Proofs.Ytmnpnpmopbkabaa
