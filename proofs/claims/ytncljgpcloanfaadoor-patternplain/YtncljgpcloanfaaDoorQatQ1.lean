/- The program's reader of patterns, in a block of its own: what it holds; 'peek', 'next', 'take'. Condition: the pattern has at most 200 signs. -/
import Derived.Test.YtncljgpcloanfaaDoorProg
import Derived.Test.YtncljgpcloanfaaDoorDKit
import Derived.BigQuiet
import Derived.Deep.QuietTactic
import Derived.Deep.AppendLies
import Derived.WalkSmall
namespace Go.Proofs.YtncljgpcloanfaaDoor
open Go.RowKit

/-- Nothing that lay in the world has turned but block R. -/
def But (R : Nat) (w w' : World) : Prop := w.grownBy w' (some R)
theorem But.refl (R : Nat) (w : World) : But R w w := ⟨rfl, rfl, rfl, Nat.le_refl _, fun _ _ _ => rfl⟩
theorem But.own {R : Nat} {w w1 w2 : World} {row : Option Nat} (h : But R w w1) (hg : w1.grownBy w2 row) (hr : ∀ k, row = some k → w.heap.size ≤ k ∨ k = R) : But R w w2 :=
  ⟨hg.os.trans h.os, hg.tape.trans h.tape, hg.output.trans h.output, Nat.le_trans h.size hg.size, fun k hk hn => by
    rw [hg.block k (Nat.lt_of_lt_of_le hk h.size) (fun e => by
      rcases hr k e.symm with g | g
      · omega
      · exact hn (by rw [g]))]
    exact h.block k hk hn⟩
theorem But.trans {R : Nat} {w w1 w2 : World} (h : But R w w1) (k : But R w1 w2) : But R w w2 := h.own k (fun _ e => .inr (by cases e; rfl))
theorem grown_drewN (w : World) (n : Nat) (row : Option Nat) : w.grownBy (w.drewN n) row := ⟨rfl, rfl, rfl, Nat.le_refl _, fun _ _ _ => rfl⟩
theorem grown_set (w : World) (a : Addr) (u : Value) : w.grownBy (w.setCell a u) (some a.block) :=
  ⟨rfl, rfl, rfl, by simp [World.setCell], fun k _ hn => Below.heap_setCell w a u k (fun e => hn (by rw [e]))⟩
theorem But.drewN {R : Nat} {w w1 : World} (h : But R w w1) (n : Nat) : But R w (w1.drewN n) := h.own (grown_drewN w1 n none) (fun _ e => by cases e)
theorem But.alloc {R : Nat} {w w1 : World} (h : But R w w1) (o : Obj) : But R w (w1.alloc o) := h.own (World.grownBy_alloc w1 o none) (fun _ e => by cases e)
theorem But.set {R : Nat} {w w1 : World} (h : But R w w1) (a : Addr) (u : Value) (ha : w.heap.size ≤ a.block ∨ a.block = R) : But R w (w1.setCell a u) := h.own (grown_set w1 a u) (fun _ e => by cases e; exact ha)
theorem But.cell {R : Nat} {w w' : World} (h : But R w w') {p : Addr} (hp : p.block < w.heap.size) (hn : p.block ≠ R) : w'.cell? p = w.cell? p := h.cell_far p hp (by simpa using hn)

/-- A reader in block R: the signs l, in block g; the place a; so many groups have begun. -/
structure Rdr (w : World) (R g cap : Nat) (l : List Nat) (a o : Nat) : Prop where
  lies : w.heap[R]? = some (.cells #[.slice (some ⟨g, 0, none⟩) l.length cap, .int .i64 a, .int .i64 o] 50 (0, 0))
  signs : ∀ i (h : i < l.length), w.cell? ⟨g, i, none⟩ = some (.int .i32 (l[i] : Nat))
  ne : g ≠ R
  lt : g < w.heap.size
  le : a ≤ l.length
  small : l.length ≤ 200
  num : ∀ c ∈ l, c ≤ 1114111
  op : o ≤ 8
theorem Rdr.cell0 {w : World} {R g cap a o : Nat} {l : List Nat} (h : Rdr w R g cap l a o) : w.cell? ⟨R, 0, none⟩ = some (.slice (some ⟨g, 0, none⟩) l.length cap) := by
  have := h.lies
  simp [World.cell?, this]
theorem Rdr.cell1 {w : World} {R g cap a o : Nat} {l : List Nat} (h : Rdr w R g cap l a o) : w.cell? ⟨R, 1, none⟩ = some (.int .i64 a) := by
  have := h.lies
  simp [World.cell?, this]
theorem Rdr.cell2 {w : World} {R g cap a o : Nat} {l : List Nat} (h : Rdr w R g cap l a o) : w.cell? ⟨R, 2, none⟩ = some (.int .i64 o) := by
  have := h.lies
  simp [World.cell?, this]
theorem Rdr.frozen {w : World} {R g cap a o : Nat} {l : List Nat} (h : Rdr w R g cap l a o) (k : Nat) : w.frozen? ⟨R, k, none⟩ = false := by
  have := h.lies
  simp [World.frozen?, this]
theorem Rdr.Rlt {w : World} {R g cap a o : Nat} {l : List Nat} (h : Rdr w R g cap l a o) : R < w.heap.size := (Array.getElem?_eq_some_iff.1 h.lies).1
/-- Another call, which changes neither block. -/
theorem Rdr.pass {w w' : World} {R g cap a o : Nat} {l : List Nat} {row : Option Nat} (h : Rdr w R g cap l a o) (hb : w.grownBy w' row) (h1 : row ≠ some R) (h2 : row ≠ some g) : Rdr w' R g cap l a o :=
  ⟨by rw [hb.block R h.Rlt (fun e => h1 e.symm)]; exact h.lies, fun i hi => by rw [hb.cell_far _ h.lt (fun e => h2 e.symm)]; exact h.signs i hi, h.ne, Nat.lt_of_lt_of_le h.lt hb.size, h.le, h.small, h.num, h.op⟩
theorem Rdr.drewN {w : World} {R g cap a o : Nat} {l : List Nat} (h : Rdr w R g cap l a o) (n : Nat) : Rdr (w.drewN n) R g cap l a o := h.pass (grown_drewN w n none) (by simp) (by simp)
theorem Rdr.alloc {w : World} {R g cap a o : Nat} {l : List Nat} (h : Rdr w R g cap l a o) (x : Obj) : Rdr (w.alloc x) R g cap l a o := h.pass (World.grownBy_alloc w x none) (by simp) (by simp)
theorem Rdr.set1 {w : World} {R g cap a o : Nat} {l : List Nat} (h : Rdr w R g cap l a o) (b : Nat) (hb : b ≤ l.length) : Rdr (w.setCell ⟨R, 1, none⟩ (.int .i64 b)) R g cap l b o :=
  ⟨by simp [World.setCell, Array.getElem?_modify, h.lies], fun i hi => by rw [(grown_set w ⟨R, 1, none⟩ _).cell_far _ h.lt (by simpa using h.ne)]; exact h.signs i hi, h.ne, by simpa [World.setCell] using h.lt, hb, h.small, h.num, h.op⟩
theorem Rdr.set2 {w : World} {R g cap a o : Nat} {l : List Nat} (h : Rdr w R g cap l a o) (p : Nat) (hp : p ≤ 8) : Rdr (w.setCell ⟨R, 2, none⟩ (.int .i64 p)) R g cap l a p :=
  ⟨by simp [World.setCell, Array.getElem?_modify, h.lies], fun i hi => by rw [(grown_set w ⟨R, 2, none⟩ _).cell_far _ h.lt (by simpa using h.ne)]; exact h.signs i hi, h.ne, by simpa [World.setCell] using h.lt, h.le, h.small, h.num, hp⟩

/-- The next sign; -1 at the end. -/
def headZ : List Nat → Int
  | [] => -1
  | c :: _ => (c : Int)
theorem head_end {l : List Nat} {a : Nat} (h : ¬ a < l.length) : headZ (l.drop a) = -1 := by rw [List.drop_eq_nil_of_le (by omega)]; rfl
theorem head_at {l : List Nat} {a : Nat} (h : a < l.length) : headZ (l.drop a) = (l[a] : Nat) := by rw [List.drop_eq_getElem_cons h]; rfl

set_option maxHeartbeats 1000000 in
theorem peek_any (w : World) (R g cap : Nat) (l : List Nat) (a o : Nat) (h : Rdr w R g cap l a o) :
    Calls Tryd.prog 25 #[.pointer (some ⟨R, 0, none⟩)] w fun e w' => e = .returned (.int .i32 (headZ (l.drop a))) ∧ ∃ n, w' = w.drewN n := by
  have c0 := h.cell0; have c1 := h.cell1
  have hs := h.small
  have hle := h.le
  by_cases hlt : a < l.length
  · have ca := h.signs a hlt
    have e1 : ((a : Int) == (l.length : Int)) = false := by rw [beq_eq_false_iff_ne]; omega
    have i1 : (a : Int) < (l.length : Int) := by omega
    rw [head_at hlt]
    clear h
    generalize l[a] = x at *
    go_enter Tryd.func25, Tryd.ntmps25
    go_wp2_with fail
    go_quiet (fail)
    go_wp2_with fail
    go_quiet (fail)
    go_wp2_with fail
    go_ret
    exact ⟨rfl, _, World.drewN_drewN ..⟩
  · have e1 : ((a : Int) == (l.length : Int)) = true := by rw [beq_iff_eq]; omega
    rw [head_end hlt]
    clear h
    go_enter Tryd.func25, Tryd.ntmps25
    go_wp2_with fail
    go_quiet (fail)
    go_wp2_with fail
    go_ret
    exact ⟨rfl, _, rfl⟩

set_option maxHeartbeats 1000000 in
theorem next_at (w : World) (R g cap : Nat) (l : List Nat) (a o : Nat) (h : Rdr w R g cap l a o) (hlt : a < l.length) :
    Calls Tryd.prog 60 #[.pointer (some ⟨R, 0, none⟩)] w fun e w' => e = .returned (.int .i32 (l[a] : Nat)) ∧ Rdr w' R g cap l (a + 1) o ∧ But R w w' := by
  have c1 := h.cell1
  have f1 := h.frozen 1
  have hs := h.small
  have HP := hide (peek_any w R g cap l a o h)
  rw [head_at hlt] at HP
  have e1 : ((l[a] : Int) != -1) = true := by rw [bne_iff_ne]; omega
  have i1 : (a : Int) + 1 ≤ 200 := by omega
  have HR := hide h
  clear h
  generalize l[a] = x at *
  go_enter Tryd.func60, Tryd.ntmps60
  go_wp2_with fail
  refine HP.out.mono ?_
  rintro e w1 ⟨rfl, n, rfl⟩
  go_wp2_with fail
  go_ret
  exact ⟨rfl, (HR.out.drewN n).set1 (a + 1) hlt, ((But.refl R w).drewN n).set _ _ (.inr rfl)⟩
set_option maxHeartbeats 1000000 in
theorem next_end (w : World) (R g cap : Nat) (l : List Nat) (a o : Nat) (h : Rdr w R g cap l a o) (hlt : ¬ a < l.length) :
    Calls Tryd.prog 60 #[.pointer (some ⟨R, 0, none⟩)] w fun e w' => e = .returned (.int .i32 (-1)) ∧ Rdr w' R g cap l a o ∧ But R w w' := by
  have HP := hide (peek_any w R g cap l a o h)
  rw [head_end hlt] at HP
  have HR := hide h
  clear h
  go_enter Tryd.func60, Tryd.ntmps60
  go_wp2_with fail
  refine HP.out.mono ?_
  rintro e w1 ⟨rfl, n, rfl⟩
  go_wp2_with fail
  go_ret
  exact ⟨rfl, HR.out.drewN n, (But.refl R w).drewN n⟩
set_option maxHeartbeats 1000000 in
theorem take_yes (w : World) (R g cap : Nat) (l : List Nat) (a o c : Nat) (h : Rdr w R g cap l a o) (hlt : a < l.length) (hc : l[a] = c) :
    Calls Tryd.prog 35 #[.pointer (some ⟨R, 0, none⟩), .int .i32 (c : Int)] w fun e w' => e = .returned (.bool true) ∧ Rdr w' R g cap l (a + 1) o ∧ But R w w' := by
  have c1 := h.cell1
  have f1 := h.frozen 1
  have hs := h.small
  have HP := hide (peek_any w R g cap l a o h)
  rw [head_at hlt, hc] at HP
  have e1 : ((c : Int) != (c : Int)) = false := by simp
  have i1 : (a : Int) + 1 ≤ 200 := by omega
  have HR := hide h
  clear h hc
  generalize (c : Int) = x at *
  go_enter Tryd.func35, Tryd.ntmps35
  go_wp2_with fail
  refine HP.out.mono ?_
  rintro e w1 ⟨rfl, n, rfl⟩
  go_wp2_with fail
  go_ret
  exact ⟨rfl, (HR.out.drewN n).set1 (a + 1) hlt, ((But.refl R w).drewN n).set _ _ (.inr rfl)⟩
set_option maxHeartbeats 1000000 in
theorem take_no (w : World) (R g cap : Nat) (l : List Nat) (a o : Nat) (c : Int) (h : Rdr w R g cap l a o) (hc : headZ (l.drop a) ≠ c) :
    Calls Tryd.prog 35 #[.pointer (some ⟨R, 0, none⟩), .int .i32 c] w fun e w' => e = .returned (.bool false) ∧ Rdr w' R g cap l a o ∧ But R w w' := by
  have HP := hide (peek_any w R g cap l a o h)
  have e1 : (headZ (l.drop a) != c) = true := by rw [bne_iff_ne]; exact hc
  have HR := hide h
  clear h hc
  generalize headZ (l.drop a) = x at *
  go_enter Tryd.func35, Tryd.ntmps35
  go_wp2_with fail
  refine HP.out.mono ?_
  rintro e w1 ⟨rfl, n, rfl⟩
  go_wp2_with fail
  go_ret
  exact ⟨rfl, HR.out.drewN n, (But.refl R w).drewN n⟩

end Go.Proofs.YtncljgpcloanfaaDoor
