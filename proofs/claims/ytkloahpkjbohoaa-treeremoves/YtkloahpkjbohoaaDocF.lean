/- The program's fresh of layer 10, at nodes, attributes and numbers: the same cells in a block of its own, or no block where there is nothing. Conditions: a row that lies in the world, of at most 2^47 bytes. -/
import Derived.Test.YtkloahpkjbohoaaDocX
import Derived.Laws.CopyRow
import Derived.Laws.MakeOwn
import Derived.OwnWalk
namespace Go.Proofs.Ytkloahpkjbohoaa
open Go.RowKit

theorem run_copy_raw {P : Program} (w : World) (dT sT ty elem : TypeId) (g n dCap : Nat) (a : Addr) (sCap size : Nat) (cur : Array Value) (t : TypeId) (cs : List Value)
    (hu : P.underlying dT = some (.slice elem)) (hs : (P.info? elem).map (·.size) = some size)
    (hg : w.heap[g]? = some (.cells cur t (0, 0))) (hn : cs.length = n * size)
    (hsrc : ∀ j v, cs[j]? = some v → w.cell? (a.add j) = some v) (hfit : cs.length = cur.size) (h1 : ∀ v ∈ cs, v.oneCell' = true) :
    (Builtin.copy_ #[dT, sT] ty #[.slice (some ⟨g, 0, none⟩) n dCap, .slice (some a) n sCap]).run P w = .ok (goInt n) (w.setRow g cs.toArray) := by
  have hl := run_loadCells_list (P := P) w a cs hsrc
  have hst := run_storeCells_at P g 0 t cs 0 cur w hg (by omega) h1
  rw [Nat.zero_add, Nat.zero_add, List.take_zero, List.nil_append, List.drop_eq_nil_of_le (by rw [Array.length_toList]; omega), List.append_nil] at hst
  cases hq : P.info? elem with
  | none => simp [hq] at hs
  | some i =>
    have hi : i.size = size := by simpa [hq] using hs
    simp [Builtin.copy_, run_underlying hu, Builtin.lenOf, Builtin.firstCells, sizeOf, typeInfo, hq, hi, ← hn, hl, hst]
theorem wpList_copy_raw {P : Program} {w : World} {ops : Array Oper} {rest : List Oper} {o : Oper} {a : Act} {Q : Exit → Act → World → Prop} (hgd : o.guard = none) (d s : Operand) (dT sT : TypeId)
    (ho : o.op = .call { callee := .builtin .copy, args := #[d, s], argTypes := #[dT, sT] }) (elem : TypeId) (size : Nat) (hu : P.underlying dT = some (.slice elem)) (hsz : (P.info? elem).map (·.size) = some size)
    (g n dCap : Nat) (ad : Addr) (sCap : Nat) (hd : a.eval d = .slice (some ⟨g, 0, none⟩) n dCap) (hs : a.eval s = .slice (some ad) n sCap)
    (cur : Array Value) (t : TypeId) (hg : w.heap[g]? = some (.cells cur t (0, 0))) (cs : List Value) (hn : cs.length = n * size)
    (hsrc : ∀ j v, cs[j]? = some v → w.cell? (ad.add j) = some v) (hfit : cs.length = cur.size) (h1 : ∀ v ∈ cs, v.oneCell' = true)
    (h : wpList P ops Q rest (a.put o.dst (goInt n)) (w.setRow g cs.toArray)) : wpList P ops Q (o :: rest) a w := by
  refine wpList_plain hgd fun K hK => ?_
  have hrun := run_copy_raw (P := P) w dT sT o.type elem g n dCap ad sCap size cur t cs hu hsz hg hn hsrc hfit h1
  unfold Oper.wp
  simp [execOp, ho, resolve, invoke, builtin, hd, hs, hrun, Result.andThen]
  exact hK _ _ h
theorem row_made {w : World} {e : TypeId} {size n : Nat} {cs : List Value} (h1 : cs.length = n * size) (hm : n ≤ maxLen) (cur : Array Value) : ((w.alloc (.cells cur e)).setRow w.heap.size cs.toArray).ownsRow w.heap.size e size (.slice (some ⟨w.heap.size, 0, none⟩) n n) n cs := by
  refine ⟨h1, .inr ⟨w.heap.size, n, cs.toArray, rfl, Nat.le_refl _, setRow_heap _ _ cur _ e _ (heap_alloc_new w _), Nat.le_refl _, hm, by simpa using h1, ?_⟩⟩
  rw [← h1]
  simp
theorem row_below (w : World) (e : TypeId) (cs cur : Array Value) : Below w.heap.size w ((w.alloc (.cells cur e)).setRow w.heap.size cs) :=
  ((Below.refl _ w).alloc (Nat.le_refl _) _).trans ⟨rfl, rfl, rfl, by simp [World.setRow], fun k hk => setRow_other _ _ _ _ (by omega)⟩
theorem sizeI : (Try.prog.info? 3).map (·.size) = some 1 := by kernel_rfl
theorem sizeA : (Try.prog.info? 48).map (·.size) = some 2 := by kernel_rfl
theorem sizeN : (Try.prog.info? 45).map (·.size) = some 5 := by kernel_rfl
/-- What fresh answers: a row of its own. -/
def Fresh (w w' : World) (e : TypeId) (size : Nat) (q : Option Addr) (cp n : Nat) (xs : List Value) : Prop := w'.ownsRow w.heap.size e size (.slice q n cp) n xs ∧ Below w.heap.size w w' ∧ ∀ k, (Value.slice q n cp).ownBlock = some k → k = w.heap.size
set_option maxHeartbeats 2000000 in
set_option maxRecDepth 100000 in
theorem freshI_any (v : Value) (n : Nat) (xs : List Value) (w : World) (hv : Raw w 1 v n xs) (h1 : ∀ u ∈ xs, u.oneCell' = true) (hn : n ≤ 17592186044416) :
    Calls Try.prog 67 #[v] w fun e w' => ∃ q cp, e = .returned (.slice q n cp) ∧ Fresh w w' 3 1 q cp n xs := by
  obtain ⟨hl, p, c, rfl, hv⟩ := hv
  by_cases h0 : n = 0
  · subst h0
    have hx : xs = [] := List.eq_nil_of_length_eq_zero (by simpa using hl)
    subst hx
    clear hv hl h1
    go_enter Try.func67, Try.ntmps67
    go_wp2_with fail
    go_ret
    exact ⟨none, 0, rfl, World.ownsRow_nil _ _ _ _, Below.refl _ _, fun k hk => by cases hk⟩
  · obtain ⟨b, o, rfl, hc⟩ : ∃ b o, p = some ⟨b, o, none⟩ ∧ ∀ j u, xs[j]? = some u → w.cell? ⟨b, o + j, none⟩ = some u := by
      rcases hv with q | q
      · exact absurd q h0
      · exact q
    obtain ⟨iT, hT0, hT1, hT2, hT3⟩ := info_parts infoI
    have MK := hide (fun w => run_make (P := Try.prog) w 43 3 iT (.int .i64 0) Try.underlying43 hT0 hT1 .i64 .i64 (n : Int) (n : Int) (by omega) (by omega) (by rw [hT3]; omega) (by omega))
    have e0 : ((n : Int) == 0) = false := by rw [beq_eq_false_iff_ne]; omega
    have mk := fun w => MK.out w
    have HC := hide hc
    have HL := hide hl
    have H1 := hide h1
    have sz : ∀ k : Nat, (madeCells (.int .i64 0 : Value).cells k).size = k := fun k => size_madeCells _ _
    have SZ := hide sz
    clear hv hc hl h1 hT0 hT1 hT3 sz h0
    rw [hT2] at mk
    clear hT2
    have NB' : Hid (∀ j u, xs[j]? = some u → b < w.heap.size) := fun j u hu => World.block_lt_of_cell? _ _ (HC.out j u hu)
    have cp := run_copy_raw (P := Try.prog) (w.alloc (.cells (madeCells #[Value.int .i64 0] n) 3)) 43 43 3 3 w.heap.size n n ⟨b, o, none⟩ c 1 _ _ xs Try.underlying43 sizeI (heap_alloc_new w _) HL.out (fun j u hu => by rw [show (⟨b, o, none⟩ : Addr).add j = ⟨b, o + j, none⟩ by unfold Addr.add; split <;> simp_all]; exact cell_below (HC.out j u hu) ((Below.refl _ w).alloc (Nat.le_refl _) _)) (by rw [size_madeCells]; first | exact HL.out | simpa using HL.out) H1.out
    go_enter Try.func67, Try.ntmps67
    go_wp2_with fail
    go_ret
    exact ⟨some ⟨w.heap.size, 0, none⟩, n, rfl, row_made HL.out (by unfold maxLen; omega) _, row_below w _ _ _, fun k hk => (Option.some.inj hk).symm⟩

set_option maxHeartbeats 2000000 in
set_option maxRecDepth 100000 in
theorem freshA_any (v : Value) (n : Nat) (xs : List Value) (w : World) (hv : Raw w 2 v n xs) (h1 : ∀ u ∈ xs, u.oneCell' = true) (hn : n ≤ 4398046511104) :
    Calls Try.prog 68 #[v] w fun e w' => ∃ q cp, e = .returned (.slice q n cp) ∧ Fresh w w' 48 2 q cp n xs := by
  obtain ⟨hl, p, c, rfl, hv⟩ := hv
  by_cases h0 : n = 0
  · subst h0
    have hx : xs = [] := List.eq_nil_of_length_eq_zero (by simpa using hl)
    subst hx
    clear hv hl h1
    go_enter Try.func68, Try.ntmps68
    go_wp2_with fail
    go_ret
    exact ⟨none, 0, rfl, World.ownsRow_nil _ _ _ _, Below.refl _ _, fun k hk => by cases hk⟩
  · obtain ⟨b, o, rfl, hc⟩ : ∃ b o, p = some ⟨b, o, none⟩ ∧ ∀ j u, xs[j]? = some u → w.cell? ⟨b, o + j, none⟩ = some u := by
      rcases hv with q | q
      · exact absurd q h0
      · exact q
    obtain ⟨iT, hT0, hT1, hT2, hT3⟩ := info_parts infoA
    have MK := hide (fun w => run_make (P := Try.prog) w 42 48 iT (.agg #[.string ⟨#[]⟩, .string ⟨#[]⟩]) Try.underlying42 hT0 hT1 .i64 .i64 (n : Int) (n : Int) (by omega) (by omega) (by rw [hT3]; omega) (by omega))
    have e0 : ((n : Int) == 0) = false := by rw [beq_eq_false_iff_ne]; omega
    have mk := fun w => MK.out w
    have HC := hide hc
    have HL := hide hl
    have H1 := hide h1
    have sz : ∀ k : Nat, (madeCells (.agg #[.string ⟨#[]⟩, .string ⟨#[]⟩] : Value).cells k).size = k := fun k => size_madeCells _ _
    have SZ := hide sz
    clear hv hc hl h1 hT0 hT1 hT3 sz h0
    rw [hT2] at mk
    clear hT2
    have NB' : Hid (∀ j u, xs[j]? = some u → b < w.heap.size) := fun j u hu => World.block_lt_of_cell? _ _ (HC.out j u hu)
    have cp := run_copy_raw (P := Try.prog) (w.alloc (.cells (madeCells #[Value.string ⟨#[]⟩, Value.string ⟨#[]⟩] (n * 2)) 48)) 42 42 3 48 w.heap.size n n ⟨b, o, none⟩ c 2 _ _ xs Try.underlying42 sizeA (heap_alloc_new w _) HL.out (fun j u hu => by rw [show (⟨b, o, none⟩ : Addr).add j = ⟨b, o + j, none⟩ by unfold Addr.add; split <;> simp_all]; exact cell_below (HC.out j u hu) ((Below.refl _ w).alloc (Nat.le_refl _) _)) (by rw [size_madeCells]; first | exact HL.out | simpa using HL.out) H1.out
    go_enter Try.func68, Try.ntmps68
    go_wp2_with fail
    go_ret
    exact ⟨some ⟨w.heap.size, 0, none⟩, n, rfl, row_made HL.out (by unfold maxLen; omega) _, row_below w _ _ _, fun k hk => (Option.some.inj hk).symm⟩

set_option maxHeartbeats 2000000 in
set_option maxRecDepth 100000 in
theorem freshN_any (v : Value) (n : Nat) (xs : List Value) (w : World) (hv : Raw w 5 v n xs) (h1 : ∀ u ∈ xs, u.oneCell' = true) (hn : n ≤ 1599289640354) :
    Calls Try.prog 66 #[v] w fun e w' => ∃ q cp, e = .returned (.slice q n cp) ∧ Fresh w w' 45 5 q cp n xs := by
  obtain ⟨hl, p, c, rfl, hv⟩ := hv
  by_cases h0 : n = 0
  · subst h0
    have hx : xs = [] := List.eq_nil_of_length_eq_zero (by simpa using hl)
    subst hx
    clear hv hl h1
    go_enter Try.func66, Try.ntmps66
    go_wp2_with fail
    go_ret
    exact ⟨none, 0, rfl, World.ownsRow_nil _ _ _ _, Below.refl _ _, fun k hk => by cases hk⟩
  · obtain ⟨b, o, rfl, hc⟩ : ∃ b o, p = some ⟨b, o, none⟩ ∧ ∀ j u, xs[j]? = some u → w.cell? ⟨b, o + j, none⟩ = some u := by
      rcases hv with q | q
      · exact absurd q h0
      · exact q
    obtain ⟨iT, hT0, hT1, hT2, hT3⟩ := info_parts infoN
    have MK := hide (fun w => run_make (P := Try.prog) w 22 45 iT (.agg #[.string ⟨#[]⟩, .string ⟨#[]⟩, .slice none 0 0, .int .i64 0, .slice none 0 0]) Try.underlying22 hT0 hT1 .i64 .i64 (n : Int) (n : Int) (by omega) (by omega) (by rw [hT3]; omega) (by omega))
    have e0 : ((n : Int) == 0) = false := by rw [beq_eq_false_iff_ne]; omega
    have mk := fun w => MK.out w
    have HC := hide hc
    have HL := hide hl
    have H1 := hide h1
    have sz : ∀ k : Nat, (madeCells (.agg #[.string ⟨#[]⟩, .string ⟨#[]⟩, .slice none 0 0, .int .i64 0, .slice none 0 0] : Value).cells k).size = k := fun k => size_madeCells _ _
    have SZ := hide sz
    clear hv hc hl h1 hT0 hT1 hT3 sz h0
    rw [hT2] at mk
    clear hT2
    have NB' : Hid (∀ j u, xs[j]? = some u → b < w.heap.size) := fun j u hu => World.block_lt_of_cell? _ _ (HC.out j u hu)
    have cp := run_copy_raw (P := Try.prog) (w.alloc (.cells (madeCells #[Value.string ⟨#[]⟩, Value.string ⟨#[]⟩, Value.slice none 0 0, Value.int .i64 0, Value.slice none 0 0] (n * 5)) 45)) 22 22 3 45 w.heap.size n n ⟨b, o, none⟩ c 5 _ _ xs Try.underlying22 sizeN (heap_alloc_new w _) HL.out (fun j u hu => by rw [show (⟨b, o, none⟩ : Addr).add j = ⟨b, o + j, none⟩ by unfold Addr.add; split <;> simp_all]; exact cell_below (HC.out j u hu) ((Below.refl _ w).alloc (Nat.le_refl _) _)) (by rw [size_madeCells]; first | exact HL.out | simpa using HL.out) H1.out
    go_enter Try.func66, Try.ntmps66
    go_wp2_with fail
    go_ret
    exact ⟨some ⟨w.heap.size, 0, none⟩, n, rfl, row_made HL.out (by unfold maxLen; omega) _, row_below w _ _ _, fun k hk => (Option.some.inj hk).symm⟩

end Go.Proofs.Ytkloahpkjbohoaa
