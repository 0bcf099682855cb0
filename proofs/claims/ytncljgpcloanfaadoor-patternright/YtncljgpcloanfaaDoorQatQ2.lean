/- What the program's patterns are in memory: parts of a heap that stay as they are; rows, spans, sets. 'named', 'only'. No condition. -/
import Derived.Test.YtncljgpcloanfaaDoorQatQ1
import Derived.Test.YtncljgpcloanfaaDoorQatAuto
import Derived.Laws.OwnMore
namespace Go.Proofs.YtncljgpcloanfaaDoor
open Go.RowKit

/-- A part of a heap. -/
abbrev Hp := Nat → Option Obj
/-- It lies in a world. -/
def Hp.In (h : Hp) (w : World) : Prop := ∀ k o, h k = some o → w.heap[k]? = some o
/-- All of it lies from a block on. -/
def Hp.From (h : Hp) (n : Nat) : Prop := ∀ k o, h k = some o → n ≤ k
def Hp.Sub (h h' : Hp) : Prop := ∀ k o, h k = some o → h' k = some o
def Hp.nil : Hp := fun _ => none
def Hp.join (h h' : Hp) : Hp := fun k => (h k).or (h' k)
theorem Hp.nil_in (w : World) : Hp.nil.In w := fun _ _ e => by cases e
theorem Hp.nil_from (n : Nat) : Hp.nil.From n := fun _ _ e => by cases e
theorem Hp.Sub.refl (h : Hp) : h.Sub h := fun _ _ e => e
theorem Hp.Sub.trans {a b c : Hp} (h : a.Sub b) (k : b.Sub c) : a.Sub c := fun i o e => k i o (h i o e)
theorem Hp.join_left (h h' : Hp) : h.Sub (h.join h') := fun k o e => by unfold Hp.join; rw [e]; rfl
theorem Hp.join_right {h h' : Hp} {w : World} (a : h.In w) (b : h'.In w) : h'.Sub (h.join h') := fun k o e => by
  unfold Hp.join
  cases g : h k with
  | none => exact e
  | some x =>
    have := a k x g
    have := b k o e
    simp_all
theorem Hp.join_in {h h' : Hp} {w : World} (a : h.In w) (b : h'.In w) : (h.join h').In w := fun k o e => by
  unfold Hp.join at e
  cases g : h k with
  | none => rw [g] at e; exact b k o e
  | some x => rw [g] at e; cases e; exact a k _ g
theorem Hp.join_from {h h' : Hp} {n : Nat} (a : h.From n) (b : h'.From n) : (h.join h').From n := fun k o e => by
  unfold Hp.join at e
  cases g : h k with
  | none => rw [g] at e; exact b k o e
  | some x => exact a k x g
theorem Hp.join_none {h h' : Hp} {k : Nat} (a : h k = none) (b : h' k = none) : h.join h' k = none := by unfold Hp.join; rw [a, b]; rfl
theorem Hp.From.mono {h : Hp} {n m : Nat} (a : h.From n) (hm : m ≤ n) : h.From m := fun k o e => Nat.le_trans hm (a k o e)
theorem Hp.From.none {h : Hp} {n k : Nat} (a : h.From n) (hk : k < n) : h k = none := by
  cases g : h k with
  | none => rfl
  | some x => have := a k x g; omega
theorem Hp.In.lt {h : Hp} {w : World} (a : h.In w) {k : Nat} {o : Obj} (e : h k = some o) : k < w.heap.size := (Array.getElem?_eq_some_iff.1 (a k o e)).1
theorem Hp.In.free {h : Hp} {w : World} (a : h.In w) {k : Nat} (hk : w.heap.size ≤ k) : h k = none := by
  cases g : h k with
  | none => rfl
  | some x => have := a.lt g; omega
theorem Hp.In.grown {h : Hp} {w w' : World} {row : Option Nat} (a : h.In w) (hg : w.grownBy w' row) (hr : ∀ k, row = some k → h k = none) : h.In w' := fun k o e => by
  rw [hg.block k (a.lt e) (fun er => by have := hr k er.symm; rw [e] at this; cases this)]
  exact a k o e
theorem Hp.In.below {h : Hp} {w w' : World} (a : h.In w) (hb : Below w.heap.size w w') : h.In w' := fun k o e => by
  rw [hb.block k (a.lt e)]; exact a k o e
theorem Hp.In.but {h : Hp} {w w' : World} {R : Nat} (a : h.In w) (hb : But R w w') (hR : h R = none) : h.In w' := a.grown hb (fun k e => by cases e; exact hR)

/-- A row that stays as it is. -/
def RowIn (h : Hp) (e : TypeId) (size : Nat) (v : Value) (n : Nat) (xs : List Value) : Prop :=
  xs.length = n * size ∧ ((v = .slice none 0 0 ∧ n = 0) ∨
   ∃ g cap cur, v = .slice (some ⟨g, 0, none⟩) n cap ∧ h g = some (.cells cur e (0, 0)) ∧ n ≤ cap ∧ cap ≤ maxLen ∧ cur.toList.take (n * size) = xs)
theorem RowIn.mono {h h' : Hp} {e : TypeId} {size : Nat} {v : Value} {n : Nat} {xs : List Value} (a : RowIn h e size v n xs) (s : h.Sub h') : RowIn h' e size v n xs := by
  refine ⟨a.1, ?_⟩
  rcases a.2 with b | ⟨g, cap, cur, b1, b2, b3⟩
  · exact .inl b
  · exact .inr ⟨g, cap, cur, b1, s g _ b2, b3⟩
theorem RowIn.form {h : Hp} {e : TypeId} {size : Nat} {v : Value} {n : Nat} {xs : List Value} (a : RowIn h e size v n xs) (hn : 0 < n) {w : World} (hi : h.In w) :
    ∃ g cap, v = .slice (some ⟨g, 0, none⟩) n cap ∧ h g ≠ none ∧ n ≤ cap ∧ cap ≤ maxLen ∧ ∀ j, j < n * size → w.cell? ⟨g, j, none⟩ = xs[j]? := by
  rcases a.2 with ⟨_, b⟩ | ⟨g, cap, cur, b1, b2, b3, b4, b5⟩
  · omega
  · refine ⟨g, cap, b1, (by rw [b2]; simp), b3, b4, fun j hj => ?_⟩
    rw [cell_of_row w g j cur e (0, 0) (hi g _ b2), ← b5, List.getElem?_take, if_pos hj]
    simp
/-- What a call owns, from now on. -/
theorem RowIn.of {w : World} {base : Nat} {e : TypeId} {size : Nat} {v : Value} {n : Nat} {xs : List Value} (h : w.ownsRow base e size v n xs) :
    ∃ h1 : Hp, h1.In w ∧ RowIn h1 e size v n xs ∧ ∀ k o, h1 k = some o → v.ownBlock = some k := by
  rcases h.2 with a | ⟨g, cap, cur, a1, a2, a3, a4, a5, a6, a7⟩
  · exact ⟨Hp.nil, Hp.nil_in w, ⟨h.1, .inl a⟩, fun _ _ e => by cases e⟩
  · refine ⟨fun k => if k = g then some (.cells cur e (0, 0)) else none, fun k o e => ?_, ⟨h.1, .inr ⟨g, cap, cur, a1, by simp, a4, a5, a7⟩⟩, fun k o e => ?_⟩
    · dsimp only at e
      split at e
      · rename_i ek; cases e; rw [ek]; exact a3
      · cases e
    · dsimp only at e
      split at e
      · rename_i ek; rw [a1, ek]; rfl
      · cases e

def cellsSp (sp : List (Nat × Nat)) : List Value := sp.flatMap fun x => [.int .i32 (x.1 : Int), .int .i32 (x.2 : Int)]
theorem cellsSp_len (sp : List (Nat × Nat)) : (cellsSp sp).length = sp.length * 2 := by
  unfold cellsSp
  induction sp with
  | nil => rfl
  | cons x t ih => rw [List.flatMap_cons, List.length_append, ih]; simp; omega
theorem cellsSp_app (a b : List (Nat × Nat)) : cellsSp (a ++ b) = cellsSp a ++ cellsSp b := by simp [cellsSp]
theorem cellsSp_at (sp : List (Nat × Nat)) : ∀ (k : Nat) (h : k < sp.length), (cellsSp sp)[2 * k]? = some (.int .i32 (sp[k].1 : Int)) ∧ (cellsSp sp)[2 * k + 1]? = some (.int .i32 (sp[k].2 : Int)) := by
  induction sp with
  | nil => intro k h; simp at h
  | cons x t ih =>
    intro k h
    cases k with
    | zero => exact ⟨rfl, rfl⟩
    | succ k =>
      have := ih k (by simpa using h)
      have e : cellsSp (x :: t) = .int .i32 (x.1 : Int) :: .int .i32 (x.2 : Int) :: cellsSp t := rfl
      rw [e]
      exact ⟨by rw [show 2 * (k + 1) = 2 * k + 1 + 1 by omega]; simpa using this.1, by rw [show 2 * (k + 1) + 1 = 2 * k + 1 + 1 + 1 by omega]; simpa using this.2⟩
theorem cellsSp_one (sp : List (Nat × Nat)) : ∀ u ∈ cellsSp sp, u.oneCell' = true := by
  intro u hu
  unfold cellsSp at hu
  obtain ⟨x, _, h⟩ := List.mem_flatMap.1 hu
  simp at h
  rcases h with rfl | rfl <;> rfl
/-- Spans in memory. -/
def SpansIs (h : Hp) (v : Value) (sp : List (Nat × Nat)) : Prop := RowIn h 99 2 v sp.length (cellsSp sp)
/-- A set in memory. -/
def SetIs (h : Hp) (v : Value) (o : One) : Prop := ∃ (sv : Value) (oth : Bool) (sp : List (Nat × Nat)), v = .agg #[sv, .bool oth] ∧ SpansIs h sv sp ∧ sp.length ≤ 1000 ∧ ∀ c, hasS sp oth c = fitOne o c
theorem SpansIs.mono {h h' : Hp} {v : Value} {sp : List (Nat × Nat)} (a : SpansIs h v sp) (s : h.Sub h') : SpansIs h' v sp := RowIn.mono a s
theorem SetIs.mono {h h' : Hp} {v : Value} {o : One} (a : SetIs h v o) (s : h.Sub h') : SetIs h' v o := by
  obtain ⟨sv, oth, sp, a1, a2, a3⟩ := a
  exact ⟨sv, oth, sp, a1, a2.mono s, a3⟩
/-- A row that was made in one piece. -/
def litHp (g : Nat) (cs : Array Value) (e : TypeId) : Hp := fun k => if k = g then some (.cells cs e (0, 0)) else none
theorem lit_in (w : World) (cs : Array Value) (e : TypeId) : (litHp w.heap.size cs e).In (w.alloc (.cells cs e)) := fun k o h => by
  unfold litHp at h
  split at h
  · rename_i ek; cases h; rw [ek]; exact heap_alloc_new w _
  · cases h
theorem lit_from (g : Nat) (cs : Array Value) (e : TypeId) : (litHp g cs e).From g := fun k o h => by
  unfold litHp at h
  split at h
  · omega
  · cases h
theorem lit_row (g n size : Nat) (cs : Array Value) (e : TypeId) (hn : n ≤ maxLen) (hs : cs.size = n * size) : RowIn (litHp g cs e) e size (.slice (some ⟨g, 0, none⟩) n n) n cs.toList :=
  ⟨by simpa using hs, .inr ⟨g, n, cs, rfl, by unfold litHp; rw [if_pos rfl], Nat.le_refl _, hn, by rw [List.take_of_length_le (by simp; omega)]⟩⟩

set_option maxHeartbeats 1000000 in
theorem named_yes (k : Nat) (w : World) (h : inN dwsN k = true) :
    Calls Tryd.prog 69 #[.int .i32 (k : Int)] w fun e w' => ∃ hp n, e = .returned (.slice (some ⟨w.heap.size, 0, none⟩) n n) ∧ SpansIs hp (.slice (some ⟨w.heap.size, 0, none⟩) n n) (namedSp k) ∧ hp.In w' ∧ hp.From w.heap.size ∧ Below w.heap.size w w' := by
  simp [inN, dwsN] at h
  rcases h with rfl | rfl | rfl
  · go_enter Tryd.func69, Tryd.ntmps69
    go_wp2_with fail
    go_ret
    exact ⟨_, 1, rfl, lit_row w.heap.size 1 2 _ _ (by unfold maxLen; omega) rfl, lit_in w _ _, lit_from _ _ _, (Below.refl _ _).alloc (Nat.le_refl _) _⟩
  · go_enter Tryd.func69, Tryd.ntmps69
    go_wp2_with fail
    go_ret
    exact ⟨_, 4, rfl, lit_row w.heap.size 4 2 _ _ (by unfold maxLen; omega) rfl, lit_in w _ _, lit_from _ _ _, (Below.refl _ _).alloc (Nat.le_refl _) _⟩
  · go_enter Tryd.func69, Tryd.ntmps69
    go_wp2_with fail
    go_ret
    exact ⟨_, 3, rfl, lit_row w.heap.size 3 2 _ _ (by unfold maxLen; omega) rfl, lit_in w _ _, lit_from _ _ _, (Below.refl _ _).alloc (Nat.le_refl _) _⟩
set_option maxHeartbeats 1000000 in
theorem named_no (z : Int) (w : World) (h : z ≠ 100 ∧ z ≠ 119 ∧ z ≠ 115) :
    Calls Tryd.prog 69 #[.int .i32 z] w fun e w' => e = .returned (.slice none 0 0) ∧ w' = w := by
  have e1 : (z == 100) = false := by rw [beq_eq_false_iff_ne]; exact h.1
  have e2 : (z == 119) = false := by rw [beq_eq_false_iff_ne]; exact h.2.1
  have e3 : (z == 115) = false := by rw [beq_eq_false_iff_ne]; exact h.2.2
  go_enter Tryd.func69, Tryd.ntmps69
  go_wp2_with fail
  go_ret
  exact ⟨rfl, rfl⟩
set_option maxHeartbeats 1000000 in
theorem only_any (z : Int) (w : World) :
    Calls Tryd.prog 64 #[.int .i32 z] w fun e w' => ∃ hp, e = .returned (.agg #[.slice (some ⟨w.heap.size + 1, 0, none⟩) 1 1, .bool false]) ∧ RowIn hp 99 2 (.slice (some ⟨w.heap.size + 1, 0, none⟩) 1 1) 1 [.int .i32 z, .int .i32 z] ∧ hp.In w' ∧ hp.From w.heap.size ∧ Below w.heap.size w w' := by
  go_enter Tryd.func64, Tryd.ntmps64
  go_wp2_with fail
  refine bodyPost_ret (v := .agg #[.slice (some ⟨w.heap.size + 1, 0, none⟩) 1 1, .bool false]) (by simp [results, go_sem]) rfl ?_
  exact ⟨_, rfl, lit_row (w.heap.size + 1) 1 2 _ _ (by unfold maxLen; omega) rfl, by simpa using lit_in (w.alloc (.cells #[.slice (some ⟨w.heap.size + 1, 0, none⟩) 1 1, .bool false] 55)) #[.int .i32 z, .int .i32 z] 99, (lit_from _ _ _).mono (by omega), ((Below.refl _ _).alloc (Nat.le_refl _) _).alloc (by simp) _⟩

end Go.Proofs.YtncljgpcloanfaaDoor
