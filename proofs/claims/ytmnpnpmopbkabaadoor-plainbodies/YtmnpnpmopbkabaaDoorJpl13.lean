/- The program's Escapes and the document's answer by the same function of a set and a byte. The program's Escapes answers by escB, for every set and byte. What the program's two tables hold, cell by cell, where they read as its text lays them. -/
import Derived.Test.YtmnpnpmopbkabaaDoorJpl2
import Derived.Shelf.Small.Strs
import Derived.Lib.LaidU8

namespace Go.Proofs.YtmnpnpmopbkabaaDoor
open Go.Shelf Go.RowKit
def iren : Go.Shelf.Ren := ⟨fun | 137 => 60 | 217 => 66 | 266 => 73 | n => n, fun | 3 => 3 | 5 => 5 | 9 => 9 | 72 => 43 | n => n, fun  | n => n⟩
theorem lays137 : Go.Proofs.Lays.n137 Tryd.prog iren := {
  mixed := by kernel_rfl
  f137 := Tryd.func60.trans (congrArg some (by kernel_rfl))
  f217 := Tryd.func66.trans (congrArg some (by kernel_rfl))
  f266 := Tryd.func73.trans (congrArg some (by kernel_rfl))
  t3 := Tryd.underlying3
  a3 := Tryd.isAgg3
  z3 := Tryd.sizeOf3
  v3 := Tryd.zeroValue3
  t5 := Tryd.underlying5
  a5 := Tryd.isAgg5
  z5 := Tryd.sizeOf5
  v5 := Tryd.zeroValue5
  t9 := Tryd.underlying9
  a9 := Tryd.isAgg9
  z9 := Tryd.sizeOf9
  v9 := Tryd.zeroValue9 }
/-- The program's table of signs. -/
def Signs (w : World) : Prop := ∀ k, k < 7 → w.cell? ⟨1, k, none⟩ = some (.string (txt (signsOf k)))
theorem Signs.below {w w' : World} (h : Signs w) (hb : Below w.heap.size w w') : Signs w' := by
  intro k hk
  have := h k hk
  exact (hb.cell (World.block_lt_of_cell? _ _ this)).trans this
theorem index_mem (c : UInt8) : ∀ l : List UInt8, 0 ≤ Lib.indexByte l c ↔ l.contains c = true
  | [] => by simp [Lib.indexByte]
  | b :: l => by
    have ih := index_mem c l
    have ge := Lib.indexByte_ge l c
    unfold Lib.indexByte
    by_cases h : b = c
    · subst h; simp
    · have h1 : (b == c) = false := by simpa using h
      have h2 : (c == b) = false := by simpa using fun e => h e.symm
      rw [h1, List.contains_cons, h2, Bool.false_or]
      by_cases g : Lib.indexByte l c = -1
      · rw [g] at ih ⊢; simp at ih ⊢; exact ih
      · have g1 : (Lib.indexByte l c == -1) = false := by simpa using g
        rw [g1, ← ih]; simp; omega
theorem index_in (c : UInt8) (l : List UInt8) : decide (0 ≤ Lib.indexByte l c) = hasB l c := by
  unfold hasB
  have := index_mem c l
  cases h : l.contains c with
  | true => rw [h] at this; exact decide_eq_true (this.2 rfl)
  | false => rw [h] at this; exact decide_eq_false (fun x => by have := this.1 x; cases this)
theorem indexByte_any (s : ByteArray) (c : UInt8) (w : World) :
    Calls Tryd.prog 60 #[.string s, .int .u8 (c.toNat : Int)] w fun e w' => e = .returned (.int .i64 (Lib.indexByte s.data.toList c)) ∧ w' = w := by
  have := Any.strings_IndexByte lays137 s (c.toNat : Int) w
  have e : ((c.toNat : Int)).toNat.toUInt8 = c := by simp
  rw [e] at this; exact this
set_option maxHeartbeats 400000 in
theorem isSet_any (a : Int) (w : World) :
    Calls Tryd.prog 46 #[.int .i64 a] w fun e w' => e = .returned (.bool (decide (0 ≤ a ∧ a ≤ 7))) ∧ w' = w := by
  by_cases h0 : 0 ≤ a
  · by_cases h7 : a ≤ 7
    · rw [decide_eq_true ⟨h0, h7⟩]
      go_enter Tryd.func46, Tryd.ntmps46
      go_wp2
      go_ret
      exact ⟨rfl, rfl⟩
    · rw [decide_eq_false (fun h => h7 h.2)]
      go_enter Tryd.func46, Tryd.ntmps46
      go_wp2
      go_ret
      exact ⟨rfl, rfl⟩
  · rw [decide_eq_false (fun h => h0 h.1)]
    go_enter Tryd.func46, Tryd.ntmps46
    go_wp2
    go_ret
    exact ⟨rfl, rfl⟩
theorem stays_low {c : UInt8} (h : 97 ≤ c.toNat ∧ c.toNat ≤ 122) : stays c = true := by
  unfold stays plainB; rw [decide_eq_true (.inr (.inr h))]; rfl
theorem stays_up {c : UInt8} (h : 65 ≤ c.toNat ∧ c.toNat ≤ 90) : stays c = true := by
  unfold stays plainB; rw [decide_eq_true (.inr (.inl h))]; rfl
theorem stays_dig {c : UInt8} (h : 48 ≤ c.toNat ∧ c.toNat ≤ 57) : stays c = true := by
  unfold stays plainB; rw [decide_eq_true (.inl h)]; rfl
theorem stays_else {c : UInt8} (h : ¬ (48 ≤ c.toNat ∧ c.toNat ≤ 57 ∨ 65 ≤ c.toNat ∧ c.toNat ≤ 90 ∨ 97 ≤ c.toNat ∧ c.toNat ≤ 122)) : stays c = hasB formSg c := by
  unfold stays plainB; rw [decide_eq_false h]; rfl
set_option maxHeartbeats 400000 in
theorem staysInForm_any (c : UInt8) (w : World) :
    Calls Tryd.prog 59 #[.int .u8 (c.toNat : Int)] w fun e w' => e = .returned (.bool (stays c)) ∧ w' = w := by
  have hI := indexByte_any ⟨#[42, 45, 46, 95]⟩ c w
  have HI := hide hI
  clear hI
  by_cases h1 : 97 ≤ c.toNat ∧ c.toNat ≤ 122
  · obtain ⟨h1a, h1b⟩ := h1
    rw [stays_low ⟨h1a, h1b⟩]
    go_enter Tryd.func59, Tryd.ntmps59
    go_wp2
    go_ret
    exact ⟨rfl, rfl⟩
  · by_cases h2 : 65 ≤ c.toNat ∧ c.toNat ≤ 90
    · obtain ⟨h2a, h2b⟩ := h2
      rw [stays_up ⟨h2a, h2b⟩]
      clear h1
      go_enter Tryd.func59, Tryd.ntmps59
      go_wp2
      go_ret
      exact ⟨rfl, rfl⟩
    · by_cases h3 : 48 ≤ c.toNat ∧ c.toNat ≤ 57
      · obtain ⟨h3a, h3b⟩ := h3
        rw [stays_dig ⟨h3a, h3b⟩]
        clear h1 h2
        go_enter Tryd.func59, Tryd.ntmps59
        go_wp2
        go_ret
        exact ⟨rfl, rfl⟩
      · rw [stays_else (by omega), show hasB formSg c = decide (0 ≤ Lib.indexByte (⟨#[42, 45, 46, 95]⟩ : ByteArray).data.toList c) from (index_in c _).symm]
        go_enter Tryd.func59, Tryd.ntmps59
        go_wp2_with fail
        all_goals first
          | (exfalso; omega)
          | (refine HI.out.mono ?_; rintro e w1 ⟨rfl, rfl⟩; go_wp2_with fail; go_ret; exact ⟨rfl, rfl⟩)
end Go.Proofs.YtmnpnpmopbkabaaDoor

namespace Go.Proofs.YtmnpnpmopbkabaaDoor
open Go.Shelf Go.RowKit
set_option maxHeartbeats 400000 in
theorem escapes_any (set : Int) (c : UInt8) (w : World) (hT : Signs w) :
    Calls Tryd.prog 48 #[.int .i64 set, .int .u8 (c.toNat : Int)] w fun e w' => e = .returned (.bool (escB set c)) ∧ w' = w := by
  have hS := fun w => isSet_any set w
  by_cases hs : 0 ≤ set ∧ set ≤ 7
  · rw [decide_eq_true hs] at hS
    have HS := hide hS
    clear hS
    by_cases hc : c.toNat < 32 ∨ 126 < c.toNat
    · rw [escB_ctl hs hc]
      rcases hc with hc | hc
      · go_enter Tryd.func48, Tryd.ntmps48
        go_wp2_with fail
        refine (HS.out _).mono ?_
        rintro e w1 ⟨rfl, rfl⟩
        go_wp2_with fail
        go_ret
        exact ⟨rfl, rfl⟩
      · go_enter Tryd.func48, Tryd.ntmps48
        go_wp2_with fail
        refine (HS.out _).mono ?_
        rintro e w1 ⟨rfl, rfl⟩
        go_wp2_with fail
        all_goals first
          | (exfalso; omega)
          | (go_ret; exact ⟨rfl, rfl⟩)
    · have hc1 : 32 ≤ c.toNat := by omega
      have hc2 : c.toNat ≤ 126 := by omega
      by_cases h7 : set = 7
      · subst h7
        have HE := hide (escB_form hc)
        clear hc
        go_enter Tryd.func48, Tryd.ntmps48
        go_wp2_with fail
        refine (HS.out _).mono ?_
        rintro e w1 ⟨rfl, rfl⟩
        go_wp2_with fail
        all_goals first
          | (exfalso; omega)
          | (refine (staysInForm_any c _).mono ?_; rintro e w1 ⟨rfl, rfl⟩; go_wp2_with fail; go_ret; exact ⟨ret_bool HE.out.symm, rfl⟩)
      · obtain ⟨k, rfl⟩ : ∃ k : Nat, set = k := ⟨set.toNat, by omega⟩
        have hk : k < 7 := by omega
        have hcell := hT k hk
        have HE := hide (escB_sign (set := (k : Int)) (c := c) (by omega) hc)
        have HI := hide (fun w => indexByte_any (txt (signsOf k)) c w)
        have q7 : ((k : Int) == 7) = false := by simp; omega
        clear hc h7 hs hT
        go_enter Tryd.func48, Tryd.ntmps48
        go_wp2_with fail
        refine (HS.out _).mono ?_
        rintro e w1 ⟨rfl, rfl⟩
        go_wp2_with fail
        all_goals first
          | (exfalso; omega)
          | (refine (HI.out _).mono ?_; rintro e w1 ⟨rfl, rfl⟩; go_wp2_with fail; go_ret; exact ⟨ret_bool ((index_in c _).trans HE.out.symm), rfl⟩)
  · rw [decide_eq_false hs] at hS
    have HS := hide hS
    rw [escB_no c hs]
    clear hS hs
    go_enter Tryd.func48, Tryd.ntmps48
    go_wp2_with fail
    refine (HS.out _).mono ?_
    rintro e w1 ⟨rfl, rfl⟩
    go_wp2_with fail
    go_ret
    exact ⟨rfl, rfl⟩
end Go.Proofs.YtmnpnpmopbkabaaDoor

namespace Go.Proofs.YtmnpnpmopbkabaaDoor
open Go.RowKit
theorem tab_text {P : Program} {w : World} {name : String} {g : Nat} {t e : TypeId} {n : Nat} {ts : List (List UInt8)} (hg : P.globalNamed name = some g) (hty : (P.globals[g]?).map (·.type) = some t)
    (ht : P.underlying t = some (.array n e)) (he : P.underlying e = some .string) (hce : P.cellsOf e = 1) (h : Lib.VarReads P w name (.agg (ts.map fun l => .lit (.string l)))) (k : Nat) (hk : k < n) :
    w.cell? ⟨g, k, none⟩ = some (.string (txt (ts.getD k []))) := by
  obtain ⟨g', t', cs, fuel, p, hg', hty', hvar, hd⟩ := h
  obtain rfl := Option.some.inj (hg.symm.trans hg')
  obtain rfl := Option.some.inj (hty.symm.trans hty')
  obtain ⟨fuel', d, q, hdi, hx⟩ := Lib.array_elem ht hd k hk
  rw [hce] at hx
  obtain ⟨s, hcs, hd', _⟩ := DataW.trod_string he hx
  have e1 : cs[k]? = some (.string s) := by
    have := congrArg (·[0]?) hcs
    simpa [List.getElem?_take, List.getElem?_drop] using this
  have e2 : ts[k]? = some s.data.toList := by
    have e3 : d = .lit (.string s.data.toList) := congrArg Prod.fst hd'
    rw [e3] at hdi
    simp only [List.getElem?_map, Option.map_eq_some_iff, DataW.lit.injEq, Lit.string.injEq] at hdi
    obtain ⟨l, h1, rfl⟩ := hdi
    exact h1
  rw [World.var?_cell hg hvar k, e1, List.getD, e2]
  rfl
theorem tab_int {P : Program} {w : World} {name : String} {g : Nat} {t e : TypeId} {n : Nat} {zs : List Int} {kd : IntKind} (hg : P.globalNamed name = some g) (hty : (P.globals[g]?).map (·.type) = some t)
    (ht : P.underlying t = some (.array n e)) (he : P.underlying e = some (.int kd)) (hce : P.cellsOf e = 1) (h : Lib.VarReads P w name (.agg (zs.map fun z => .lit (.int kd z)))) (k : Nat) (hk : k < n) :
    w.cell? ⟨g, k, none⟩ = some (.int kd (zs.getD k 0)) := by
  obtain ⟨g', t', cs, fuel, p, hg', hty', hvar, hd⟩ := h
  obtain rfl := Option.some.inj (hg.symm.trans hg')
  obtain rfl := Option.some.inj (hty.symm.trans hty')
  obtain ⟨fuel', d, q, hdi, hx⟩ := Lib.array_elem ht hd k hk
  rw [hce] at hx
  obtain ⟨z, hcs, hd', _⟩ := DataW.trod_int he hx
  have e1 : cs[k]? = some (.int kd z) := by
    have := congrArg (·[0]?) hcs
    simpa [List.getElem?_take, List.getElem?_drop] using this
  have e2 : zs[k]? = some z := by
    have e3 : d = .lit (.int kd z) := congrArg Prod.fst hd'
    rw [e3] at hdi
    simp only [List.getElem?_map, Option.map_eq_some_iff, DataW.lit.injEq, Lit.int.injEq, true_and] at hdi
    obtain ⟨l, h1, rfl⟩ := hdi
    exact h1
  rw [World.var?_cell hg hvar k, e1, List.getD, e2]
  rfl
/-- The program's table of digits. -/
def Digs (w : World) : Prop := ∀ k, k < 16 → w.cell? ⟨2, k, none⟩ = some (.int .u8 ((hexD k).toNat : Int))
theorem Digs.below {w w' : World} (h : Digs w) (hb : Below w.heap.size w w') : Digs w' := by
  intro k hk
  have := h k hk
  exact (hb.cell (World.block_lt_of_cell? _ _ this)).trans this
theorem Digs.under {B : Nat} {w w' : World} (h : Digs w) (hb : Below B w w') (hB : 2 < B) : Digs w' := by
  intro k hk
  exact (hb.cell hB).trans (h k hk)
theorem signs_eq : (Rows.laid_counterfoil_escape_signs : DataW Unit) = .agg ([signsOf 0, signsOf 1, signsOf 2, signsOf 3, signsOf 4, signsOf 5, signsOf 6].map fun l => .lit (.string l)) := by kernel_rfl
theorem digs_eq : (Rows.laid_counterfoil_escape_digits : DataW Unit) = .agg (((List.range 16).map fun k => ((hexD k).toNat : Int)).map fun z => .lit (.int .u8 z)) := by kernel_rfl
theorem signs_of {w : World} (h : Lib.VarReads Tryd.prog w "counterfoil/escape.signs" Rows.laid_counterfoil_escape_signs) : Signs w := by
  intro k hk
  rw [signs_eq] at h
  have := tab_text (P := Tryd.prog) (g := 1) (by kernel_rfl) (by kernel_rfl) Tryd.underlying78 Tryd.underlying9 (by kernel_rfl) h k hk
  rw [this]
  match k, hk with
  | 0, _ => rfl
  | 1, _ => rfl
  | 2, _ => rfl
  | 3, _ => rfl
  | 4, _ => rfl
  | 5, _ => rfl
  | 6, _ => rfl
theorem digs_of {w : World} (h : Lib.VarReads Tryd.prog w "counterfoil/escape.digits" Rows.laid_counterfoil_escape_digits) : Digs w := by
  intro k hk
  rw [digs_eq] at h
  have := tab_int (P := Tryd.prog) (g := 2) (by kernel_rfl) (by kernel_rfl) Tryd.underlying79 Tryd.underlying5 (by kernel_rfl) h k hk
  rw [this]
  simp [List.getD, hk]

end Go.Proofs.YtmnpnpmopbkabaaDoor
