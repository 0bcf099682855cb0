/- The program's Escapes and the document's answer by the same function of a set and a byte; they change nothing. Condition: the program's table of signs reads as its text lays it. -/
import Derived.Test.YtcaoamccnibihaaDoorRows
import Derived.Test.YtcaoamccnibihaaDoorLow
import Derived.Test.YtcaoamccnibihaaDoorEsc
import Derived.Shelf.Small.Strs
namespace Go.Proofs.YtcaoamccnibihaaDoor
open Go.Shelf Go.RowKit

def iren : Go.Shelf.Ren := ⟨fun | 137 => 23 | 217 => 34 | 266 => 39 | n => n, fun | 3 => 3 | 5 => 5 | 9 => 9 | 72 => 40 | n => n, fun  | n => n⟩
theorem lays137 : Go.Proofs.Lays.n137 Tryd.prog iren := {
  mixed := by kernel_rfl
  f137 := Tryd.func23.trans (congrArg some (by kernel_rfl))
  f217 := Tryd.func34.trans (congrArg some (by kernel_rfl))
  f266 := Tryd.func39.trans (congrArg some (by kernel_rfl))
  t3 := Tryd.underlying3
  a3 := Tryd.isAgg3
  z3 := Tryd.sizeOf3
  v3 := Tryd.zeroValue3
  t5 := Tryd.underlying5
  a5 := Tryd.isAgg5
  z5 := Tryd.sizeOf5
  v5 := Tryd.zeroValue5
  t9 := Tryd.underlying9
  a9 := Tryd.isAgg9
  z9 := Tryd.sizeOf9
  v9 := Tryd.zeroValue9 }

/-- The program's table of signs. -/
def Signs (w : World) : Prop := ∀ k, k < 7 → w.cell? ⟨0, k, none⟩ = some (.string (txt (signsOf k)))
theorem Signs.below {w w' : World} (h : Signs w) (hb : Below w.heap.size w w') : Signs w' := by
  intro k hk
  have := h k hk
  exact (hb.cell (World.block_lt_of_cell? _ _ this)).trans this

theorem index_mem (c : UInt8) : ∀ l : List UInt8, 0 ≤ Lib.indexByte l c ↔ l.contains c = true
  | [] => by simp [Lib.indexByte]
  | b :: l => by
    have ih := index_mem c l
    have ge := Lib.indexByte_ge l c
    unfold Lib.indexByte
    by_cases h : b = c
    · subst h; simp
    · have h1 : (b == c) = false := by simpa using h
      have h2 : (c == b) = false := by simpa using fun e => h e.symm
      rw [h1, List.contains_cons, h2, Bool.false_or]
      by_cases g : Lib.indexByte l c = -1
      · rw [g] at ih ⊢; simp at ih ⊢; exact ih
      · have g1 : (Lib.indexByte l c == -1) = false := by simpa using g
        rw [g1, ← ih]; simp; omega
theorem index_in (c : UInt8) (l : List UInt8) : decide (0 ≤ Lib.indexByte l c) = hasB l c := by
  unfold hasB
  have := index_mem c l
  cases h : l.contains c with
  | true => rw [h] at this; exact decide_eq_true (this.2 rfl)
  | false => rw [h] at this; exact decide_eq_false (fun x => by have := this.1 x; cases this)
theorem indexByte_any (s : ByteArray) (c : UInt8) (w : World) :
    Calls Tryd.prog 23 #[.string s, .int .u8 (c.toNat : Int)] w fun e w' => e = .returned (.int .i64 (Lib.indexByte s.data.toList c)) ∧ w' = w := by
  have := Any.strings_IndexByte lays137 s (c.toNat : Int) w
  have e : ((c.toNat : Int)).toNat.toUInt8 = c := by simp
  rw [e] at this; exact this

set_option maxHeartbeats 400000 in
theorem isSet_any (a : Int) (w : World) :
    Calls Tryd.prog 21 #[.int .i64 a] w fun e w' => e = .returned (.bool (decide (0 ≤ a ∧ a ≤ 7))) ∧ w' = w := by
  by_cases h0 : 0 ≤ a
  · by_cases h7 : a ≤ 7
    · rw [decide_eq_true ⟨h0, h7⟩]
      go_enter Tryd.func21, Tryd.ntmps21
      go_wp2
      go_ret
      exact ⟨rfl, rfl⟩
    · rw [decide_eq_false (fun h => h7 h.2)]
      go_enter Tryd.func21, Tryd.ntmps21
      go_wp2
      go_ret
      exact ⟨rfl, rfl⟩
  · rw [decide_eq_false (fun h => h0 h.1)]
    go_enter Tryd.func21, Tryd.ntmps21
    go_wp2
    go_ret
    exact ⟨rfl, rfl⟩

theorem stays_low {c : UInt8} (h : 97 ≤ c.toNat ∧ c.toNat ≤ 122) : stays c = true := by
  unfold stays plainB; rw [decide_eq_true (.inr (.inr h))]; rfl
theorem stays_up {c : UInt8} (h : 65 ≤ c.toNat ∧ c.toNat ≤ 90) : stays c = true := by
  unfold stays plainB; rw [decide_eq_true (.inr (.inl h))]; rfl
theorem stays_dig {c : UInt8} (h : 48 ≤ c.toNat ∧ c.toNat ≤ 57) : stays c = true := by
  unfold stays plainB; rw [decide_eq_true (.inl h)]; rfl
theorem stays_else {c : UInt8} (h : ¬ (48 ≤ c.toNat ∧ c.toNat ≤ 57 ∨ 65 ≤ c.toNat ∧ c.toNat ≤ 90 ∨ 97 ≤ c.toNat ∧ c.toNat ≤ 122)) : stays c = hasB formSg c := by
  unfold stays plainB; rw [decide_eq_false h]; rfl

set_option maxHeartbeats 400000 in
theorem staysInForm_any (c : UInt8) (w : World) :
    Calls Tryd.prog 22 #[.int .u8 (c.toNat : Int)] w fun e w' => e = .returned (.bool (stays c)) ∧ w' = w := by
  have hI := indexByte_any ⟨#[42, 45, 46, 95]⟩ c w
  have HI := hide hI
  clear hI
  by_cases h1 : 97 ≤ c.toNat ∧ c.toNat ≤ 122
  · obtain ⟨h1a, h1b⟩ := h1
    rw [stays_low ⟨h1a, h1b⟩]
    go_enter Tryd.func22, Tryd.ntmps22
    go_wp2
    go_ret
    exact ⟨rfl, rfl⟩
  · by_cases h2 : 65 ≤ c.toNat ∧ c.toNat ≤ 90
    · obtain ⟨h2a, h2b⟩ := h2
      rw [stays_up ⟨h2a, h2b⟩]
      clear h1
      go_enter Tryd.func22, Tryd.ntmps22
      go_wp2
      go_ret
      exact ⟨rfl, rfl⟩
    · by_cases h3 : 48 ≤ c.toNat ∧ c.toNat ≤ 57
      · obtain ⟨h3a, h3b⟩ := h3
        rw [stays_dig ⟨h3a, h3b⟩]
        clear h1 h2
        go_enter Tryd.func22, Tryd.ntmps22
        go_wp2
        go_ret
        exact ⟨rfl, rfl⟩
      · rw [stays_else (by omega), show hasB formSg c = decide (0 ≤ Lib.indexByte (⟨#[42, 45, 46, 95]⟩ : ByteArray).data.toList c) from (index_in c _).symm]
        go_enter Tryd.func22, Tryd.ntmps22
        go_wp2_with fail
        all_goals first
          | (exfalso; omega)
          | (refine HI.out.mono ?_; rintro e w1 ⟨rfl, rfl⟩; go_wp2_with fail; go_ret; exact ⟨rfl, rfl⟩)

end Go.Proofs.YtcaoamccnibihaaDoor
