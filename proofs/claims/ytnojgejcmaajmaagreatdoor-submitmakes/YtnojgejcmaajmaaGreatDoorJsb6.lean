/- The program's find, has, the questions of kinds, isOf, firstOf, isRooted, above of layer 16. What a form asks for, as functions of documents. The program's find, has, isThere, fires, blocks, Asks of layer 24. The program's settings and its closure, method, bodyKind, Method, Kind of layer 24. -/
import Derived.Test.YtnojgejcmaajmaaGreatDoorJsb2
import Derived.WalkMore
import Derived.Deep.DeepCutAuto
import Derived.Deep.RegionHeld3
import Derived.Deep.RegionWith
import Derived.BigRegion
import Derived.Laws.MakeOwn

namespace Go.Proofs.YtnojgejcmaajmaaGreatDoor
open Go.RowKit
set_option maxRecDepth 100000
/-- A node that lies in the world, told by its number. -/
theorem node_ofW {w : World} {p : Option Addr} {c : Nat} {l : List Nd} (hv : NodesV w (.slice p l.length c) l) {m : Nat} (hm : m < l.length) : ∃ b o va pk nk ck, p = some ⟨b, o, none⟩ ∧ NodeAt w b (o + m * 5) l[m] va (.slice pk nk ck) := by
  obtain ⟨p', c', e, h⟩ := hv
  cases e
  rcases h with h | ⟨b, o, rfl, h⟩
  · rw [h] at hm; cases hm
  · obtain ⟨va, vk, N⟩ := h m hm
    obtain ⟨pk, ck, rfl, _⟩ := N.ks
    exact ⟨b, o, va, pk, _, ck, rfl, N⟩
theorem nds_formW {w : World} {v : Value} {l : List Nd} (h : NodesV w v l) : ∃ p c, v = .slice p l.length c := by
  obtain ⟨p, c, e, _⟩ := h; exact ⟨p, c, e⟩
end Go.Proofs.YtnojgejcmaajmaaGreatDoor

namespace Go.Proofs.YtnojgejcmaajmaaGreatDoor
open Go.RowKit
/-- An address with its query. -/
def fst8 (c : UInt8) (s : List UInt8) : Nat := (s.takeWhile fun x => x != c).length
def qryL (a q : List UInt8) : List UInt8 := (a.take (fst8 35 a)).take (fst8 63 (a.take (fst8 35 a))) ++ (63 :: q) ++ a.drop (fst8 35 a)
end Go.Proofs.YtnojgejcmaajmaaGreatDoor

namespace Go.Proofs.YtnojgejcmaajmaaGreatDoor
open Go.RowKit
set_option maxRecDepth 100000
def hereB (n : Nat) (id : Int) : Bool := decide (0 ≤ id) && decide (id < (n : Int))
theorem here_of {n : Nat} {id : Int} (h : hereB n id = true) : ∃ m : Nat, id = (m : Int) ∧ m < n := by
  unfold hereB at h
  rw [Bool.and_eq_true, decide_eq_true_eq, decide_eq_true_eq] at h
  exact ⟨id.toNat, by omega, by omega⟩
theorem hasN_here {l : List Nd} {id : Int} : hasN l id = (hereB l.length id && rightB l) := by
  unfold hasN hereB
  congr 1
  by_cases h0 : 0 ≤ id <;> by_cases h1 : id < (l.length : Int) <;> simp [h0, h1]
set_option maxHeartbeats 4000000 in
theorem sbIsThere_any (p : Option Addr) (n c : Nat) (id : Int) (w : World) :
    Calls Tryz.prog 21 #[.slice p n c, .int .i64 id] w fun e w' => e = .returned (.bool (hereB n id)) ∧ w' = w := by
  by_cases h0 : 0 ≤ id
  · by_cases h1 : id < (n : Int)
    · have E : Hid (hereB n id = true) := by show _ = _; unfold hereB; rw [decide_eq_true h0, decide_eq_true h1]; rfl
      have d1 : decide (id < (n : Int)) = true := decide_eq_true h1
      go_enter Tryz.func21, Tryz.ntmps21
      go_wp2_with fail
      go_ret
      exact ⟨ret_bool E.out.symm, rfl⟩
    · have E : Hid (hereB n id = false) := by show _ = _; unfold hereB; rw [decide_eq_true h0, decide_eq_false h1]; rfl
      have d1 : decide (id < (n : Int)) = false := decide_eq_false h1
      go_enter Tryz.func21, Tryz.ntmps21
      go_wp2_with fail
      go_ret
      exact ⟨ret_bool E.out.symm, rfl⟩
  · have E : Hid (hereB n id = false) := by show _ = _; unfold hereB; rw [decide_eq_false h0]; rfl
    have d0 : decide (0 ≤ id) = false := decide_eq_false h0
    go_enter Tryz.func21, Tryz.ntmps21
    go_wp2_with fail
    go_ret
    exact ⟨ret_bool E.out.symm, rfl⟩
end Go.Proofs.YtnojgejcmaajmaaGreatDoor

namespace Go.Proofs.YtnojgejcmaajmaaGreatDoor
open Go.RowKit
set_option maxRecDepth 100000
/-- What a settings' closure has captured. -/
structure ToldC (w : World) (v : Value) (form sub : Int) (fi : Bool) (Bi Bl Bs Bf : Nat) : Prop where
  c1 : w.cell? ⟨Bi, 0, none⟩ = some (.bool fi)
  c2 : w.cell? ⟨Bl, 0, none⟩ = some v
  c3 : w.cell? ⟨Bs, 0, none⟩ = some (.int .i64 sub)
  c4 : w.cell? ⟨Bf, 0, none⟩ = some (.int .i64 form)
theorem ToldC.below {w w' : World} {v : Value} {form sub : Int} {fi : Bool} {Bi Bl Bs Bf : Nat} (h : ToldC w v form sub fi Bi Bl Bs Bf) (hb : Below w.heap.size w w') : ToldC w' v form sub fi Bi Bl Bs Bf :=
  ⟨cell_below h.c1 hb, cell_below h.c2 hb, cell_below h.c3 hb, cell_below h.c4 hb⟩

end Go.Proofs.YtnojgejcmaajmaaGreatDoor
