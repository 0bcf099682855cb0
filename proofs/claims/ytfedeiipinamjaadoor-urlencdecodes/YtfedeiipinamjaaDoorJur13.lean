/- Facts of no program. -/
import Derived.Test.YtfedeiipinamjaaDoorJur2

namespace Go.Proofs.YtfedeiipinamjaaDoor
open Go.RowKit
theorem ret_str {a b : ByteArray} (h : a = b) : Ending.returned (.string a) = .returned (.string b) := by rw [h]
/-- The types of bytes, of slices of bytes and of texts. -/
structure ByteTypes (P : Program) (t e st : TypeId) : Prop where
  sl : P.underlying t = some (.slice e)
  el : P.underlying e = some (.int .u8)
  str : P.underlying st = some .string
  info : (P.info? e).map (fun i => (i.zero, i.size, i.bytes)) = some (some (.int .u8 0), 1, 1)
theorem strOfNums_bytes (l : List UInt8) : strOfNums (l.map fun c => (c.toNat : Int)) = txt l := by
  unfold strOfNums txt
  rw [List.map_map]
  have : ((fun n : Int => UInt8.ofNat n.toNat) ∘ fun c : UInt8 => (c.toNat : Int)) = id := by
    funext c; simp
  rw [this, List.map_id]
/-- 'string(b)' of such a slice. -/
theorem OwnsB.text {P : Program} {t e st : TypeId} (bt : ByteTypes P t e st) {base : Nat} {w : World} {v : Value} {l : List UInt8} (h : OwnsB e base w v l) :
    (convert t st v).run P w = .ok (.string (txt l)) w := by
  rcases h.2 with ⟨rfl, hn⟩ | ⟨g, cap, cur, rfl, hg, hh, r⟩
  · have : l = [] := List.eq_nil_of_length_eq_zero hn
    subst this
    exact run_convert_bytes_nil (P := P) w t e bt.sl bt.el 0 0 st bt.str
  · have hl : (l.map fun c => (c.toNat : Int)).length = l.length := by simp
    have := run_convert_bytes_arg (P := P) w t e bt.sl bt.el g 0 l.length cap _ hl (fun i hi => by
      rw [Nat.zero_add, World.ownsRow.cellAt h i (by omega)]
      simp [cellB, hi]) st bt.str
    rw [this, strOfNums_bytes]
theorem grown_below {e : TypeId} {base : Nat} {w w' : World} {v : Value} {n : Nat} {xs : List Value} (h : w.ownsRow base e 1 v n xs) (hg : w.grownBy w' v.ownBlock) (hB : base ≤ w.heap.size) : Below base w w' :=
  (Below.refl base w).grown hg hB fun k hk => (h.lt k hk).1
/-- 'out = append(out, c)': the byte was laid in a block of its own first. -/
theorem wpList_append_byte {P : Program} {t e st : TypeId} (bt : ByteTypes P t e st) {ops : Array Oper} {rest : List Oper} {o : Oper} {a : Act} {Q : Exit → Act → World → Prop} (w : World) (y : Int)
    (hgd : o.guard = none) (s x : Operand) (ho : o.op = .call { callee := .builtin .append, args := #[s, x], argTypes := #[t, t] })
    (base : Nat) (v : Value) (l : List UInt8) (c : UInt8) (hy : y = (c.toNat : Int)) (hs : a.eval s = v) (hown : OwnsB e base w v l)
    (hx : a.eval x = .slice (some ⟨w.heap.size, 0, none⟩) 1 1) (hlen : l.length ≤ 70368744177664) (hbase : base ≤ w.heap.size)
    (h : ∀ v' w', OwnsB e base w' v' (l ++ [c]) → Below base w w' → wpList P ops Q rest (a.put o.dst v') w') : wpList P ops Q (o :: rest) a (w.alloc (.cells #[.int .u8 y] e)) := by
  subst hy
  obtain ⟨i, hi, hz0, hz1, hz2⟩ := info_parts bt.info
  have hown' : (w.alloc (.cells #[.int .u8 (c.toNat : Int)] e)).ownsRow base e 1 v l.length (l.map cellB) := World.ownsRow.alloc hown _
  refine wpList_append_own (P := P) _ hgd s x t ho base e i (.int .u8 0) 1 1 bt.sl hi hz0 hz1 hz2 rfl (by decide) v l.length (l.map cellB) hs hown' ⟨w.heap.size, 0, none⟩ 1 1 [cellB c] hx rfl (cell_one_new _ _ _) (fun u hu => by simp at hu; subst hu; rfl) (by unfold maxLen; omega) (by omega) (by simp; omega) ?_
  intro v' w' h1 h2 _
  refine h v' w' ?_ (((Below.refl base w).alloc hbase _).trans (grown_below hown' h2 (by simp; omega)))
  simpa [OwnsB] using h1

end Go.Proofs.YtfedeiipinamjaaDoor
