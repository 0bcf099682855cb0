/- What the program's atoms, rows and groups are in memory; 'inner', 'atom' and 'piece', by the level of groups. Condition: the reader's. -/
import Derived.Test.YtncljgpcloanfaaDoorQatItems
import Derived.Test.YtncljgpcloanfaaDoorQatR7
namespace Go.Proofs.YtncljgpcloanfaaDoor
open Go.RowKit

def isOneP : Pat → Bool
  | ⟨false, some _, _, _⟩ => true
  | _ => false
/-- A row of pieces in memory, its atoms by A. -/
def RowIs (h : Hp) (A : Value → Pat → Prop) (v : Value) (ps : List Pc) : Prop :=
  ∃ xs, RowIn h 91 3 v ps.length xs ∧ ∀ i p, ps[i]? = some p → ∃ av, xs[3 * i]? = some av ∧ xs[3 * i + 1]? = some (.int .i64 (p.2.1 : Int)) ∧ xs[3 * i + 2]? = some (.int .i64 (hiZ p.2.2)) ∧ A av p.1 ∧ OftOk (!isOneP p.1) p.2.1 p.2.2
/-- A group's rows in memory. -/
def GroupIs (h : Hp) (A : Value → Pat → Prop) (rv : Value) (p : Pat) : Prop :=
  ∃ rows : List (List Pc), (rows ≠ [] ∧ rows.length ≤ 1000) ∧ p = altsP (rows.map rowP) ∧ ∃ vs, RowIn h 69 1 rv rows.length vs ∧ ∀ (i : Nat) (r : List Pc), rows[i]? = some r → ∃ v, vs[i]? = some v ∧ RowIs h A v r
/-- An atom in memory, with so many groups within one another at most. -/
def AtomIs (h : Hp) : Nat → Value → Pat → Prop
  | 0, v, a => ∃ sv o, v = .iface 55 sv ∧ a = .one o ∧ SetIs h sv o
  | k + 1, v, a => (∃ sv o, v = .iface 55 sv ∧ a = .one o ∧ SetIs h sv o) ∨ ∃ rv, v = .iface 37 (.agg #[rv]) ∧ isOneP a = false ∧ GroupIs h (AtomIs h k) rv a
theorem RowIs.mono {h h' : Hp} {A B : Value → Pat → Prop} {v : Value} {ps : List Pc} (a : RowIs h A v ps) (s : h.Sub h') (hAB : ∀ v p, A v p → B v p) : RowIs h' B v ps := by
  obtain ⟨xs, a1, a2⟩ := a
  refine ⟨xs, a1.mono s, fun i p hp => ?_⟩
  obtain ⟨av, b1, b2, b3, b4, b5⟩ := a2 i p hp
  exact ⟨av, b1, b2, b3, hAB _ _ b4, b5⟩
theorem GroupIs.mono {h h' : Hp} {A B : Value → Pat → Prop} {v : Value} {p : Pat} (a : GroupIs h A v p) (s : h.Sub h') (hAB : ∀ v p, A v p → B v p) : GroupIs h' B v p := by
  obtain ⟨rows, a1, a2, vs, a3, a4⟩ := a
  refine ⟨rows, a1, a2, vs, a3.mono s, fun i r hr => ?_⟩
  obtain ⟨v, b1, b2⟩ := a4 i r hr
  exact ⟨v, b1, b2.mono s hAB⟩
theorem AtomIs.mono {h h' : Hp} (s : h.Sub h') : ∀ (k : Nat) (v : Value) (p : Pat), AtomIs h k v p → AtomIs h' k v p
  | 0, v, p, ⟨sv, o, a1, a2, a3⟩ => ⟨sv, o, a1, a2, a3.mono s⟩
  | k + 1, v, p, a => by
    rcases a with ⟨sv, o, a1, a2, a3⟩ | ⟨rv, a1, a2, a3⟩
    · exact .inl ⟨sv, o, a1, a2, a3.mono s⟩
    · exact .inr ⟨rv, a1, a2, a3.mono s (AtomIs.mono s k)⟩
theorem AtomIs.set {h : Hp} {sv : Value} {o : One} (k : Nat) (a : SetIs h sv o) : AtomIs h k (.iface 55 sv) (.one o) := by
  cases k with
  | zero => exact ⟨sv, o, rfl, rfl, a⟩
  | succ k => exact .inl ⟨sv, o, rfl, rfl, a⟩

/-- What 'group' answers. -/
def GrpPost (w : World) (R g cap : Nat) (l : List Nat) (k o : Nat) (res : Rd) (e : Ending) (w' : World) : Prop :=
  (∃ rv b, e = .returned (.tuple #[.agg #[rv], .bool b]) ∧ (∃ q n c2, rv = .slice q n c2) ∧ ((b = false ∧ res = none) ∨ (b = true ∧ ∃ p r hp, res = some (p, r) ∧ GroupIs hp (AtomIs hp k) rv p ∧ hp.In w' ∧ hp.From w.heap.size)) ∧ ∃ a', a' ≤ l.length ∧ (∀ p r, res = some (p, r) → l.drop a' = r) ∧ Rdr w' R g cap l a' o) ∧ But R w w'
def GroupC (k o : Nat) : Prop := ∀ (w : World) (R g cap : Nat) (l : List Nat) (a : Nat), Rdr w R g cap l a o →
    Calls Tryd.prog 24 #[.pointer (some ⟨R, 0, none⟩)] w (GrpPost w R g cap l k o (rowsD k (l.drop a)))
theorem cells1_at {w : World} {k : Nat} {x : Value} {t : TypeId} (h : w.heap[k]? = some (.cells #[x] t (0, 0))) : w.cell? ⟨k, 0, none⟩ = some x ∧ ∀ j, w.frozen? ⟨k, j, none⟩ = false := by
  refine ⟨by simp [World.cell?, h], fun j => by simp [World.frozen?, h]⟩

set_option maxHeartbeats 4000000 in
theorem inner_full (w : World) (R g cap : Nat) (l : List Nat) (a : Nat) (h : Rdr w R g cap l a 8) :
    Calls Tryd.prog 61 #[.pointer (some ⟨R, 0, none⟩)] w fun e w' => e = .returned (.tuple #[.agg #[.slice none 0 0], .bool false]) ∧ Rdr w' R g cap l a 8 ∧ But R w w' := by
  have c2 := (h.alloc (.cells #[.slice none 0 0] 37)).cell2
  have Rl := h.Rlt
  have gl := h.lt
  have HR := hide h
  clear h
  go_enter Tryd.func61, Tryd.ntmps61
  go_wp2_with fail
  refine bodyPost_ret (v := .tuple #[.agg #[.slice none 0 0], .bool false]) (by simp [results, go_sem]) rfl ?_
  exact ⟨rfl, by first | exact HR.out.alloc _ | exact (HR.out.alloc _).pass (grown_set _ _ _) (by simp; omega) (by simp; omega), by first | exact (But.refl R w).alloc _ | exact ((But.refl R w).alloc _).set _ _ (.inl (Nat.le_refl _))⟩

end Go.Proofs.YtncljgpcloanfaaDoor
