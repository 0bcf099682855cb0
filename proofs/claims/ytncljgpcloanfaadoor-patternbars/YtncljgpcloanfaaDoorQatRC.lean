/- The document's join and same of layer 9: they answer by the functions of 'PatM'; what lay in the world lies there still. Condition: rows of at most 2^16 bools of one length. -/
import Derived.Laws.MakeOwn
import Derived.Laws.OwnMore
import Derived.Test.YtncljgpcloanfaaDoorQatRB
namespace Go.Proofs.YtncljgpcloanfaaDoor
open Go.RowKit

/-- A row of bools in block g. -/
structure Bools (w : World) (g : Nat) (x : List Bool) : Prop where
  lt : g < w.heap.size
  cells : ∀ i (h : i < x.length), w.cell? ⟨g, i, none⟩ = some (.bool x[i])
theorem Bools.below {w w' : World} {g : Nat} {x : List Bool} (h : Bools w g x) (hb : Below w.heap.size w w') : Bools w' g x :=
  ⟨by have := hb.size; have := h.lt; omega, fun i hi => (hb.cell (p := ⟨g, i, none⟩) h.lt).trans (h.cells i hi)⟩
def bolV (g cap : Nat) (x : List Bool) : Value := .slice (some ⟨g, 0, none⟩) x.length cap
theorem info_bool : (Tryd.prog.info? 4).map (fun i => (i.zero, i.size, i.bytes)) = some (some (.bool false), 1, 1) := by kernel_rfl
theorem make_bools (n : Nat) (hn : n ≤ 1048576) (w : World) : (Instr.makeSlice 43 (.int .i64 (n : Int)) (.int .i64 (n : Int))).run Tryd.prog w = .ok (.slice (some ⟨w.heap.size, 0, none⟩) n n) (w.alloc (.cells (List.replicate n (Value.bool false)).toArray 4)) := by
  obtain ⟨i, hi, hz0, hz1, hz2⟩ := info_parts info_bool
  have := run_make (P := Tryd.prog) w 43 4 i (.bool false) Tryd.underlying43 hi hz0 .i64 .i64 (n : Int) (n : Int) (by omega) (by omega) (by rw [hz2]; omega) (by omega)
  rw [this, hz1, Int.toNat_natCast, Nat.mul_one]
  have e : madeCells (Value.bool false).cells n = (List.replicate n (Value.bool false)).toArray := by
    apply Array.ext'
    exact toList_madeCells_one (.bool false) n
  rw [e]
/-- The new row behind k rounds: the first k bools are those of z, the others false. -/
structure MadeAt (w : World) (z : List Bool) (k : Nat) (wr : World) : Prop where
  cells : ∀ j (h : j < z.length), wr.cell? ⟨w.heap.size, j, none⟩ = some (.bool (if j < k then z[j] else false))
  free : ∀ j, wr.frozen? ⟨w.heap.size, j, none⟩ = false
  below : Below w.heap.size w wr
  lt : w.heap.size < wr.heap.size
theorem made_zero (w : World) (z : List Bool) (n : Nat) (hn : n = z.length) : MadeAt w z 0 (w.alloc (.cells (List.replicate n (Value.bool false)).toArray 4)) := by
  subst hn
  refine ⟨fun j hj => ?_, fun j => World.frozen?_alloc_new w _ _ j, (Below.refl _ _).alloc (Nat.le_refl _) _, by simp⟩
  rw [World.cell?_alloc_at _ _ _ _ rfl, List.getElem?_toArray, List.getElem?_replicate, if_pos hj, if_neg (by omega)]
theorem made_next {w : World} {z : List Bool} {k : Nat} {wr : World} (h : MadeAt w z k wr) (hk : k < z.length) {b : Bool} (hb : b = z[k]) : MadeAt w z (k + 1) (wr.setCell ⟨w.heap.size, k, none⟩ (.bool b)) := by
  subst hb
  refine ⟨fun j hj => ?_, fun j => by rw [World.frozen?_setCell]; exact h.free j, h.below.setCell (Nat.le_refl _) _, by rw [World.size_setCell]; exact h.lt⟩
  by_cases e : j = k
  · subst e
    rw [World.cell?_setCell_same _ _ _ (h.cells j hj), if_pos (by omega)]
  · rw [World.cell?_setCell_other _ _ _ _ (fun q => e (by simpa using q.symm)), h.cells j hj]
    by_cases e2 : j < k
    · rw [if_pos e2, if_pos (by omega)]
    · rw [if_neg e2, if_neg (by omega)]
theorem made_same {w : World} {z : List Bool} {k : Nat} {wr : World} (h : MadeAt w z k wr) (hk : k < z.length) (hf : z[k] = false) : MadeAt w z (k + 1) wr := by
  refine ⟨fun j hj => ?_, h.free, h.below, h.lt⟩
  rw [h.cells j hj]
  by_cases e2 : j < k
  · rw [if_pos e2, if_pos (by omega)]
  · by_cases e : j = k
    · subst e; rw [if_neg (by omega), if_pos (by omega), hf]
    · rw [if_neg e2, if_neg (by omega)]
theorem made_done {w : World} {z : List Bool} {wr : World} (h : MadeAt w z z.length wr) : Bools wr w.heap.size z := ⟨h.lt, fun i hi => by rw [h.cells i hi, if_pos hi]⟩
theorem made_keep {w : World} {z : List Bool} {k : Nat} {wr : World} (h : MadeAt w z k wr) {g : Nat} {x : List Bool} (hx : Bools w g x) : Bools wr g x := hx.below h.below
theorem orB_at {x y : List Bool} {k : Nat} (hk : k < (orB x y).length) (h1 : k < x.length) (h2 : k < y.length) : (orB x y)[k] = (x[k] || y[k]) := by
  have e : (orB x y)[k]? = some (x[k] || y[k]) := by
    unfold orB
    rw [List.getElem?_zipWith]
    simp [h1, h2]
  rw [List.getElem?_eq_getElem hk] at e
  exact Option.some.inj e

set_option maxHeartbeats 1000000 in
set_option maxRecDepth 100000 in
theorem refJoin_any (ga ca gb cb : Nat) (x y : List Bool) (w : World) (hA : Bools w ga x) (hB : Bools w gb y) (hl : x.length = y.length) (hx : x.length ≤ 65536) :
    Calls Tryd.prog 32 #[bolV ga ca x, bolV gb cb y] w fun e w' => ∃ g, e = .returned (bolV g (orB x y).length (orB x y)) ∧ w.heap.size ≤ g ∧ Bools w' g (orB x y) ∧ Below w.heap.size w w' := by
  have hz : (orB x y).length = x.length := orB_len hl
  have MK := hide (fun w => make_bools x.length (by omega) w)
  have M0 := hide (made_zero w (orB x y) x.length hz.symm)
  have HA := hide hA
  have HBo := hide hB
  have OA := hide (fun k hk h1 h2 => orB_at (x := x) (y := y) (k := k) hk h1 h2)
  have HL := hide hl
  have mk := fun w => MK.out w
  unfold bolV
  clear hA hB hl
  generalize hzz : orB x y = z at *
  have HZ := hide hz
  have hzl : z.length ≤ x.length := by omega
  have hzl2 : x.length ≤ z.length := by omega
  clear hzz hz MK
  have hy1 : y.length ≤ x.length := by have := HL.out; omega
  have hy2 : x.length ≤ y.length := by have := HL.out; omega
  go_enter Tryd.func32, Tryd.ntmps32
  go_wp2_with fail
  go_loopw [6] (fun i wr => ∃ k : Nat, k ≤ x.length ∧ i = .int .i64 k ∧ MadeAt w z k wr) (fun i _ => x.length - (intOf i).toNat)
  case atStart => exact ⟨0, Nat.zero_le _, rfl, M0.out⟩
  case round =>
    obtain ⟨k, hk, rfl, hm⟩ := hrel
    rename World => wr
    by_cases h : k < x.length
    · have i1 : (k : Int) < (x.length : Int) := by omega
      have kz : k < z.length := by omega
      have ky : k < y.length := by omega
      have iy : (k : Int) < (y.length : Int) := by omega
      have c1 := (made_keep hm HA.out).cells k h
      have c2 := (made_keep hm HBo.out).cells k ky
      have c3 := hm.cells k kz
      have f3 := hm.free k
      have oz := OA.out k kz h ky
      cases hxk : x[k] with
      | true =>
        have NX := hide (fun (b : Bool) hb => made_next hm kz (b := b) hb)
        have bz : true = z[k] := by rw [oz, hxk, Bool.true_or]
        have BZ := hide bz
        rw [hxk] at c1
        clear hm oz hxk OA HA HBo bz
        generalize y[k] = yk at *
        go_wp2_with fail
        go_roundw
        case rel => exact ⟨k + 1, by omega, by go_num, NX.out _ BZ.out⟩
        case measure => simp [intOf]; omega
      | false =>
        have NX := hide (fun (b : Bool) hb => made_next hm kz (b := b) hb)
        have bz : y[k] = z[k] := by rw [oz, hxk, Bool.false_or]
        have BZ := hide bz
        rw [hxk] at c1
        clear hm oz hxk OA HA HBo bz
        generalize y[k] = yk at *
        go_wp2_with fail
        go_roundw
        case rel => exact ⟨k + 1, by omega, by go_num, NX.out _ BZ.out⟩
        case measure => simp [intOf]; omega
    · obtain rfl : k = x.length := by omega
      have i1 : ¬ (x.length : Int) < (x.length : Int) := by omega
      rw [← HZ.out] at hm
      have D := hide (made_done hm)
      have hb := hm.below
      clear hm OA HA HBo M0
      have E : Hid (x.length = z.length) := HZ.out.symm
      go_wp2_with fail
      go_ret
      exact ⟨w.heap.size, by show Ending.returned (.slice (some ⟨w.heap.size, 0, none⟩) x.length x.length) = _; rw [E.out], Nat.le_refl _, D.out, hb⟩

end Go.Proofs.YtncljgpcloanfaaDoor
