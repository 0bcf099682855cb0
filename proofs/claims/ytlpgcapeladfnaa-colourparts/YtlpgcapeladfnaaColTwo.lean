/- Two bytes that are appended at once; the hexadecimal digits with small letters: plain facts of no program. No condition. -/
import Derived.WalkSmall
import Derived.Lib.IndexBytes
import Derived.Deep.RegionLaw
import Derived.Deep.AppendLies
import Derived.Laws.OwnMore
import Derived.Test.YtlpgcapeladfnaaCol
namespace Go.Proofs.Ytlpgcapeladfnaa
open Go.RowKit

def digsS : ByteArray := ⟨#[48, 49, 50, 51, 52, 53, 54, 55, 56, 57, 97, 98, 99, 100, 101, 102]⟩
theorem digs_low (c : UInt8) : Lib.indexByte digsS.data.toList (lowB c) = hexV c := by
  have : ∀ n : Fin 256, Lib.indexByte digsS.data.toList (lowB (UInt8.ofNat n.val)) = hexV (UInt8.ofNat n.val) := by decide +kernel
  have h := this ⟨c.toNat, c.toNat_lt⟩
  simpa using h
theorem low_at (s : ByteArray) (k : Nat) (h : k < s.size) (h' : k < (lowS s).size) : (lowS s)[k]'h' = lowB (byteAt s k) := by
  rw [byteAt_eq _ k h']
  unfold byteAt
  rw [lowS_data]
  unfold lowL
  have e : k < s.data.toList.length := by simpa using h
  simp [List.getD, h]
theorem colDigs_at (n : Nat) (h : n < 16) : (digsS[n]'h) = lowB (hexD n) := by
  have : ∀ n : Fin 16, (digsS[n.val]'n.isLt) = lowB (hexD n.val) := by decide +kernel
  exact this ⟨n, h⟩

/-- 'out = append(out, c, d)': the bytes were laid in a block of their own first. -/
theorem wpList_append_two {P : Program} {t e st : TypeId} (bt : ByteTypes P t e st) {ops : Array Oper} {rest : List Oper} {o : Oper} {a : Act} {Q : Exit → Act → World → Prop} (w : World) (y z : Int)
    (hgd : o.guard = none) (s x : Operand) (ho : o.op = .call { callee := .builtin .append, args := #[s, x], argTypes := #[t, t] })
    (base : Nat) (v : Value) (l : List UInt8) (c d : UInt8) (hy : y = (c.toNat : Int)) (hz : z = (d.toNat : Int)) (hs : a.eval s = v) (hown : OwnsB e base w v l)
    (hx : a.eval x = .slice (some ⟨w.heap.size, 0, none⟩) 2 2) (hlen : l.length ≤ 70368744177664) (hbase : base ≤ w.heap.size)
    (h : ∀ v' w', OwnsB e base w' v' (l ++ [c, d]) → Below base w w' → wpList P ops Q rest (a.put o.dst v') w') : wpList P ops Q (o :: rest) a (w.alloc (.cells #[.int .u8 y, .int .u8 z] e)) := by
  subst hy hz
  obtain ⟨i, hi, hz0, hz1, hz2⟩ := info_parts bt.info
  have hown' : (w.alloc (.cells #[.int .u8 (c.toNat : Int), .int .u8 (d.toNat : Int)] e)).ownsRow base e 1 v l.length (l.map cellB) := World.ownsRow.alloc hown _
  refine wpList_append_own (P := P) _ hgd s x t ho base e i (.int .u8 0) 1 1 bt.sl hi hz0 hz1 hz2 rfl (by decide) v l.length (l.map cellB) hs hown' ⟨w.heap.size, 0, none⟩ 2 2 [cellB c, cellB d] hx rfl (cell_two_new _ _ _ _) (fun u hu => by simp at hu; rcases hu with rfl | rfl <;> rfl) (by unfold maxLen; omega) (by omega) (by simp; omega) ?_
  intro v' w' h1 h2 _
  refine h v' w' ?_ (((Below.refl base w).alloc hbase _).trans (grown_below hown' h2 (by simp; omega)))
  simpa [OwnsB] using h1

/-- .. as one step of a statement that draws its order. -/
theorem step_append_two {P : Program} {t e st : TypeId} (bt : ByteTypes P t e st) {ops : Array Oper} {o : Oper} {a : Act} {K : Act → World → Prop} {Q : Exit → Act → World → Prop} {E : Prop} (w : World) (y z : Int)
    (hgd : o.guard = none) (s x : Operand) (ho : o.op = .call { callee := .builtin .append, args := #[s, x], argTypes := #[t, t] })
    (base : Nat) (v : Value) (l : List UInt8) (c d : UInt8) (hy : y = (c.toNat : Int)) (hz : z = (d.toNat : Int)) (hs : a.eval s = v) (hown : OwnsB e base w v l)
    (hx : a.eval x = .slice (some ⟨w.heap.size, 0, none⟩) 2 2) (hlen : l.length ≤ 70368744177664) (hbase : base ≤ w.heap.size)
    (h : ∀ v' w', OwnsB e base w' v' (l ++ [c, d]) → Below base w w' → K (a.put o.dst v') w') : if Region.wanted o (yielded ops a.tmps) = true then Oper.wp P o a (w.alloc (.cells #[.int .u8 y, .int .u8 z] e)).drew K Q else E := by
  subst hy hz
  obtain ⟨i, hi, hz0, hz1, hz2⟩ := info_parts bt.info
  have hown0 : (w.alloc (.cells #[.int .u8 (c.toNat : Int), .int .u8 (d.toNat : Int)] e)).ownsRow base e 1 v l.length (l.map cellB) := World.ownsRow.alloc hown _
  have hown' : (w.alloc (.cells #[.int .u8 (c.toNat : Int), .int .u8 (d.toNat : Int)] e)).drew.ownsRow base e 1 v l.length (l.map cellB) := ownsRow_below hown0 (Below.drew (Below.refl _ _))
  refine step_append_lies _ hgd s x t ho base e i (.int .u8 0) 1 1 bt.sl hi hz0 hz1 hz2 rfl (by decide) v l.length (l.map cellB) hs hown' ⟨w.heap.size, 0, none⟩ 2 2 [cellB c, cellB d] hx rfl (cell_two_new _ _ _ _) (fun u hu => by simp at hu; rcases hu with rfl | rfl <;> rfl) (by decide) (by unfold maxLen; omega) (by omega) (by simp; omega) _ rfl ?_
  intro g cap w' h1 h2 _ _
  refine h _ w' ?_ (((Below.refl base w).alloc hbase _).drew.trans (grown_below hown' h2 (by simp; omega)))
  simpa [OwnsB] using h1

def low2 (c : UInt8) : List UInt8 := [lowB (hexD (c.toNat / 16)), lowB (hexD (c.toNat % 16))]
theorem colL_low2 (r g b : UInt8) : colL r g b = [35] ++ low2 r ++ low2 g ++ low2 b := colL_eq r g b
theorem ownsB_one (w : World) (e : TypeId) (c : UInt8) : OwnsB e w.heap.size (w.alloc (.cells #[.int .u8 (c.toNat : Int)] e)) (.slice (some ⟨w.heap.size, 0, none⟩) 1 1) [c] := World.ownsRow_lit w #[.int .u8 (c.toNat : Int)] 1 (Nat.le_refl _) (by decide) rfl

end Go.Proofs.Ytlpgcapeladfnaa
