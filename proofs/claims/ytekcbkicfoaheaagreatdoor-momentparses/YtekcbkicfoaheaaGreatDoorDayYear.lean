/- The program's yearOf: the year that has a number, where years begin by a function that goes up; whatever function it is handed that answers so and leaves the world as it was. Condition: numbers of 64 bits; the function answers for years from 1 to some six digits. -/
import Derived.Shelf.SlSorted.Search
import Derived.BigQuiet
import Derived.Test.YtekcbkicfoaheaaGreatDoorDayProg
namespace Go.Proofs.YtekcbkicfoaheaaGreatDoor
open Go.RowKit Go.Sort

/-- What a function that is handed on answers: where a year begins. -/
def Begins (g : Nat) (F : Int → Int) : Prop := ∀ (y : Int) (w : World), 1 ≤ y → y ≤ 275763 → Calls Tryz.prog g #[.int .i64 y] w fun e w' => e = .returned (.int .i64 (F y)) ∧ w' = w

set_option maxHeartbeats 1000000 in
theorem closure_any (g : Nat) (eg : ∀ args w, (callFunc g args).run Tryz.prog w = .ok (.enter g args) w) (F : Int → Int) (hg : Begins g F) (bb bn : Nat) (n x : Int) (W : World) (x1 : 0 ≤ x) (x2 : x < 275760)
    (hb : W.cell? ⟨bb, 0, none⟩ = some (.func (.func g) #[] #[])) (hn : W.cell? ⟨bn, 0, none⟩ = some (.int .i64 n)) :
    Calls Tryz.prog 90 (#[.int .i64 x] ++ #[.pointer (some ⟨bb, 0, none⟩), .pointer (some ⟨bn, 0, none⟩)]) W fun e w' => e = .returned (.bool (decide (n < F (x + 2)))) ∧ ∃ q, w' = W.drewN q := by
  have hF := fun w => hg (x + 2) w (by omega) (by omega)
  generalize F (x + 2) = f at *
  have HF := hide hF
  clear hF hg
  go_enter Tryz.func90, Tryz.ntmps90
  go_wp2
  go_quiet (exact Calls.quiet_of_same (HF.out _))
  go_wp2
  go_ret
  exact ⟨rfl, nq, rfl⟩

def renS : Go.Shelf.Ren := ⟨fun | 16 => 89 | n => n, fun | 3 => 3 | 4 => 4 | 34 => 107 | 35 => 35 | 38 => 98 | n => n, fun n => n⟩
theorem laysS : Go.Proofs.SlLaysO.n16 Tryz.prog renS := {
  mixed := by kernel_rfl
  f16 := Tryz.func89.trans (congrArg some (by kernel_rfl))
  t3 := Tryz.underlying3
  a3 := Tryz.isAgg3
  z3 := Tryz.sizeOf3
  v3 := Tryz.zeroValue3
  t4 := Tryz.underlying4
  a4 := Tryz.isAgg4
  z4 := Tryz.sizeOf4
  v4 := Tryz.zeroValue4
  t35 := Tryz.underlying35
  a35 := Tryz.isAgg35
  z35 := Tryz.sizeOf35
  v35 := Tryz.zeroValue35
  t38 := Tryz.underlying98
  a38 := Tryz.isAgg98
  z38 := Tryz.sizeOf98
  v38 := Tryz.zeroValue98 }
theorem eg34 : ∀ args w, (callFunc 90 args).run Tryz.prog w = .ok (.enter 90 args) w := enters_of Tryz.func90 (by kernel_rfl) rfl

theorem count_is {n T : Nat} {p : Nat → Bool} (hT : T ≤ n) (h1 : ∀ i, i < T → p i = false) (h2 : ∀ i, T ≤ i → i < n → p i = true) : (List.range n).countP (fun i => !p i) = T := by
  have hr : ∀ t, t < n → (List.range n)[t]! = t := fun t ht => by rw [getElem!_pos _ t (by simpa using ht)]; simp
  refine Lib.countP_boundary _ (List.range n) T (by simpa using hT) (fun t ht => ?_) (fun t h3 h4 => ?_)
  · rw [hr t (by omega), h1 t ht]; rfl
  · rw [hr t (by simpa using h4), h2 t h3 (by simpa using h4)]; rfl

/-- The world behind the two boxes. -/
def boxed (w : World) (n : Int) (g : Nat) : World := (w.alloc (.cells #[.int .i64 n] 2)).alloc (.cells #[.func (.func g) #[] #[]] 60)
theorem boxed_n (w : World) (n : Int) (g : Nat) : (boxed w n g).cell? ⟨w.heap.size, 0, none⟩ = some (.int .i64 n) := cell_alloc_sl _ (cell_new_sl w _ _)
theorem boxed_g (w : World) (n : Int) (g : Nat) : (boxed w n g).cell? ⟨w.heap.size + 1, 0, none⟩ = some (.func (.func g) #[] #[]) := by
  have := cell_new_sl (w.alloc (.cells #[.int .i64 n] 2)) (.func (.func g) #[] #[]) 60
  rwa [World.size_alloc] at this
theorem boxed_size (w : World) (n : Int) (g : Nat) : (boxed w n g).heap.size = w.heap.size + 1 + 1 := by simp [boxed]
theorem boxed_below (w : World) (n : Int) (g : Nat) (q : Nat) (os : Array Obj) : Below w.heap.size w (grow ((boxed w n g).drewN q) os) := by
  have hB0 : Below w.heap.size w (boxed w n g) := ((Below.refl _ w).alloc (Nat.le_refl _) _).alloc (by simp) _
  exact hB0.trans (below_grown_sl w.heap.size (boxed w n g) q os (by rw [boxed_size]; omega))

theorem search_any (g : Nat) (eg : ∀ args w, (callFunc g args).run Tryz.prog w = .ok (.enter g args) w) (F : Int → Int) (hg : Begins g F) (hF : ∀ x y, x ≤ y → F x ≤ F y) (n y : Int) (y1 : 1 ≤ y) (y2 : y ≤ 275761)
    (hlo : F y ≤ n) (hhi : y ≤ 275760 → n < F (y + 1)) (w : World) (q : Nat) :
    Calls Tryz.prog 89 #[.int .i64 275760, .func (.func 90) #[] #[.pointer (some ⟨w.heap.size + 1, 0, none⟩), .pointer (some ⟨w.heap.size, 0, none⟩)]] ((boxed w n g).drewN q) fun e w' =>
      e = .returned (.int .i64 (y - 1)) ∧ ∃ q' os, w' = grow ((boxed w n g).drewN q') os := by
  have cn : ((boxed w n g).drewN q).cell? ⟨w.heap.size, 0, none⟩ = some (.int .i64 n) := boxed_n w n g
  have cg : ((boxed w n g).drewN q).cell? ⟨w.heap.size + 1, 0, none⟩ = some (.func (.func g) #[] #[]) := boxed_g w n g
  have sz : ((boxed w n g).drewN q).heap.size = w.heap.size + 1 + 1 := boxed_size w n g
  have h := Any.sort_Search laysS 90 #[.pointer (some ⟨w.heap.size + 1, 0, none⟩), .pointer (some ⟨w.heap.size, 0, none⟩)] 275760 (fun i => decide (n < F ((i : Int) + 2))) ((boxed w n g).drewN q) eg34 (by decide)
    (fun m os i hi => (closure_any g eg F hg (w.heap.size + 1) w.heap.size n (i : Int) _ (by omega) (by omega) (cell_grown (by rw [sz]; exact Nat.lt_succ_self _) cg m os) (cell_grown (by rw [sz]; show w.heap.size < _; omega) cn m os)).mono
      fun _ _ ⟨he, q, hq⟩ => ⟨he, q, #[], by rw [hq, grow_empty]⟩)
    (fun a b hab _ ha => by
      have := hF ((a : Int) + 2) ((b : Int) + 2) (by omega)
      have := of_decide_eq_true ha
      exact decide_eq_true (by omega))
  have hc : (List.range 275760).countP (fun i : Nat => !decide (n < F ((i : Int) + 2))) = (y - 1).toNat := by
    refine count_is (p := fun i : Nat => decide (n < F ((i : Int) + 2))) (by omega) (fun i hi => ?_) (fun i h1 h2 => ?_)
    · have := hF ((i : Int) + 2) y (by omega)
      exact decide_eq_false (by omega)
    · have := hF (y + 1) ((i : Int) + 2) (by omega)
      have := hhi (by omega)
      exact decide_eq_true (by omega)
  rw [hc] at h
  have e : (((y - 1).toNat : Nat) : Int) = y - 1 := by omega
  rw [e] at h
  refine h.mono ?_
  rintro e' w' ⟨he, q', os, rfl⟩
  exact ⟨he, q + q', os, by rw [World.drewN_drewN]⟩

theorem ret_year {a b : Int} {c : Bool} (h : a = b) : Ending.returned (.tuple #[.int .i64 a, .bool c]) = .returned (.tuple #[.int .i64 b, .bool c]) := by rw [h]

set_option maxHeartbeats 1000000 in
theorem yearOf_at (g : Nat) (eg : ∀ args w, (callFunc g args).run Tryz.prog w = .ok (.enter g args) w) (F : Int → Int) (hg : Begins g F) (hF : ∀ x y, x ≤ y → F x ≤ F y) (n y : Int) (y1 : 1 ≤ y) (y2 : y ≤ 275761)
    (hlo : F y ≤ n) (hhi : y ≤ 275760 → n < F (y + 1)) (w : World) :
    Calls Tryz.prog 73 #[.int .i64 n, .func (.func g) #[] #[]] w fun e w' => e = .returned (.tuple #[.int .i64 y, .bool (yearOk y)]) ∧ Below w.heap.size w w' := by
  have hS := fun q => search_any g eg F hg hF n y y1 y2 hlo hhi w q
  have h1 := fun w => hg 1 w (by decide) (by decide)
  have hle : F 1 ≤ n := by have := hF 1 y y1; omega
  have hB := boxed_below w n g
  have ey : (1 : Int) + (y - 1) = y := by omega
  have hY : ∀ w, Calls Tryz.prog 62 #[.int .i64 (1 + (y - 1))] w fun e w' => e = .returned (.bool (yearOk y)) ∧ w' = w := fun w => by rw [ey]; exact isYear_any y w
  generalize yearOk y = b at *
  generalize F 1 = f at *
  unfold boxed at hS hB
  have HS := hide hS
  have H1 := hide h1
  have HB := hide hB
  have HY := hide hY
  have EY := hide ey
  clear hS h1 hB hg hF hlo hhi hY ey
  go_enter Tryz.func73, Tryz.ntmps73
  go_wp2
  go_quiet (exact Calls.quiet_of_same (H1.out _))
  go_wp2_with fail
  refine (HS.out _).mono ?_
  rintro e w' ⟨rfl, q, os, rfl⟩
  go_wp2_with fail
  refine (HY.out _).mono ?_
  rintro e u1 ⟨rfl, rfl⟩
  go_wp2_with fail
  go_ret2
  exact ⟨ret_year EY.out, HB.out _ _⟩

set_option maxHeartbeats 1000000 in
theorem yearOf_low (g : Nat) (eg : ∀ args w, (callFunc g args).run Tryz.prog w = .ok (.enter g args) w) (F : Int → Int) (hg : Begins g F) (n : Int) (h : n < F 1) (w : World) :
    Calls Tryz.prog 73 #[.int .i64 n, .func (.func g) #[] #[]] w fun e w' => e = .returned (.tuple #[.int .i64 0, .bool false]) ∧ Below w.heap.size w w' := by
  have h1 := fun w => hg 1 w (by decide) (by decide)
  have hB := fun q => boxed_below w n g q #[]
  generalize F 1 = f at *
  unfold boxed at hB
  have H1 := hide h1
  have HB := hide hB
  clear h1 hB hg
  go_enter Tryz.func73, Tryz.ntmps73
  go_wp2
  go_quiet (exact Calls.quiet_of_same (H1.out _))
  go_wp2_with fail
  go_ret2
  exact ⟨rfl, by have := HB.out nq; rw [grow_empty] at this; exact this⟩

theorem begins_day : Begins 61 newV := fun y w h1 h2 => firstDay_any y w h1 h2
theorem begins_monday : Begins 65 firstV := fun y w h1 h2 => firstMonday_any y w h1 h2
theorem eg_day : ∀ args w, (callFunc 61 args).run Tryz.prog w = .ok (.enter 61 args) w := enters_of Tryz.func61 (by kernel_rfl) rfl
theorem eg_monday : ∀ args w, (callFunc 65 args).run Tryz.prog w = .ok (.enter 65 args) w := enters_of Tryz.func65 (by kernel_rfl) rfl

end Go.Proofs.YtekcbkicfoaheaaGreatDoor
