/- The program's 'has'; a walk through a machine in memory; 'put'. Condition: fewer than 900000 states. -/
import Derived.Test.YtncljgpcloanfaaDoorQatMach
import Derived.Test.YtncljgpcloanfaaDoorQatAuto
namespace Go.Proofs.YtncljgpcloanfaaDoor
open Go.RowKit

theorem any_take (sp : List (Nat × Nat)) (c i : Nat) (h : i < sp.length) (hp : (sp.take i).any (fun x => decide (x.1 ≤ c) && decide (c ≤ x.2)) = false) : (sp.take (i + 1)).any (fun x => decide (x.1 ≤ c) && decide (c ≤ x.2)) = (decide (sp[i].1 ≤ c) && decide (c ≤ sp[i].2)) := by
  rw [List.take_succ_eq_append_getElem h, List.any_append, hp]; simp
theorem any_found (sp : List (Nat × Nat)) (c i : Nat) (h : i < sp.length) (h1 : sp[i].1 ≤ c) (h2 : c ≤ sp[i].2) : sp.any (fun x => decide (x.1 ≤ c) && decide (c ≤ x.2)) = true := by
  rw [List.any_eq_true]; exact ⟨sp[i], List.getElem_mem h, by simp [h1, h2]⟩
set_option maxHeartbeats 4000000 in
theorem has_any (c1 : Value) (oth : Bool) (sp : List (Nat × Nat)) (c : Nat) (hp : Hp) (w : World) (hs : SpansIs hp c1 sp) (hl : sp.length ≤ 1000) (hin : hp.In w) :
    Calls Tryd.prog 41 #[.agg #[c1, .bool oth], .int .i32 (c : Int)] w fun e w' => e = .returned (.bool (hasS sp oth c)) ∧ Below w.heap.size w w' := by
  obtain ⟨q, m, cc, rfl⟩ := RowIn.shape hs
  obtain rfl : m = sp.length := by
    rcases hs.2 with ⟨e, e2⟩ | ⟨g, cap, cur, e, _⟩
    · cases e; exact e2.symm
    · cases e; rfl
  have B0 := heap_alloc_new w (.cells #[.slice q sp.length cc, .bool oth] 55)
  have I0 := hin.grown (World.grownBy_alloc w (.cells #[.slice q sp.length cc, .bool oth] 55) none) (fun _ e => by cases e)
  have BL0 := (Below.refl w.heap.size w).alloc (Nat.le_refl _) (.cells #[.slice q sp.length cc, .bool oth] 55)
  obtain ⟨a0, a1, af⟩ := cells2_at B0
  have HS := hide hs
  have B0 := hide B0
  have I0 := hide I0
  have BL0 := hide BL0
  clear hs hin
  go_enter Tryd.func41, Tryd.ntmps41
  go_wp2_with fail
  go_loopw [10] (fun iv wr => ∃ i : Nat, i ≤ sp.length ∧ iv = .int .i64 (i : Int) ∧ wr.heap[w.heap.size]? = some (.cells #[.slice q sp.length cc, .bool oth] 55 (0, 0)) ∧ hp.In wr ∧ Below w.heap.size w wr ∧ (sp.take i).any (fun x => decide (x.1 ≤ c) && decide (c ≤ x.2)) = false) (fun iv _ => sp.length - (intOf iv).toNat)
  case atStart => exact ⟨0, Nat.zero_le _, rfl, B0.out, I0.out, BL0.out, by simp⟩
  case round =>
    obtain ⟨i, hi, rfl, br, ir, blr, hf⟩ := hrel
    rename World => wr
    clear a0 a1 af
    obtain ⟨a0, a1, af⟩ := cells2_at br
    have HF := hide hf
    have BR := hide br
    have IR := hide ir
    have BLR := hide blr
    have wl : w.heap.size < wr.heap.size := (Array.getElem?_eq_some_iff.1 br).1
    by_cases hlt : i < sp.length
    · obtain ⟨g, cp, e, _, _, _, hcell⟩ := HS.out.form (by omega) ir
      cases e
      have cs := cellsSp_at sp i hlt
      have k0 : wr.cell? ⟨g, i * 2, none⟩ = some (.int .i32 (sp[i].1 : Int)) := by rw [hcell _ (by omega), show i * 2 = 2 * i by omega]; exact cs.1
      have k1 : wr.cell? ⟨g, i * 2 + 1, none⟩ = some (.int .i32 (sp[i].2 : Int)) := by rw [hcell _ (by omega), show i * 2 = 2 * i by omega]; exact cs.2
      have AT := hide (any_take sp c i hlt hf)
      have AF := hide (any_found sp c i hlt)
      have z1 : (i : Int) < (sp.length : Int) := by omega
      have z2 : (sp.length : Int) ≤ 1000 := by omega
      clear hf br ir blr hcell cs
      generalize sp[i].1 = x1 at *
      generalize sp[i].2 = x2 at *
      by_cases h1 : x1 ≤ c
      · have y1 : (x1 : Int) ≤ (c : Int) := by omega
        by_cases h2 : c ≤ x2
        · have y2 : (c : Int) ≤ (x2 : Int) := by omega
          have E : Hid (hasS sp oth c = !oth) := by show _ = _; unfold hasS; rw [AF.out h1 h2, if_pos rfl]
          go_wp2_with fail
          go_ret
          exact ⟨ret_bool E.out.symm, BLR.out.alloc (by omega) _⟩
        · have y2 : ¬ (c : Int) ≤ (x2 : Int) := by omega
          have E : Hid ((sp.take (i + 1)).any (fun x => decide (x.1 ≤ c) && decide (c ≤ x.2)) = false) := by show _ = _; rw [AT.out]; simp [h2]
          go_wp2_with fail
          go_roundw
          case rel => exact ⟨i + 1, by omega, by go_num, grown_heap (World.grownBy_alloc wr _ none) BR.out (by simp), IR.out.grown (World.grownBy_alloc wr _ none) (fun _ e => by cases e), BLR.out.alloc (by omega) _, E.out⟩
          case measure => simp [intOf]; omega
      · have y1 : ¬ (x1 : Int) ≤ (c : Int) := by omega
        have E : Hid ((sp.take (i + 1)).any (fun x => decide (x.1 ≤ c) && decide (c ≤ x.2)) = false) := by show _ = _; rw [AT.out]; simp [h1]
        go_wp2_with fail
        go_roundw
        case rel => exact ⟨i + 1, by omega, by go_num, grown_heap (World.grownBy_alloc wr _ none) BR.out (by simp), IR.out.grown (World.grownBy_alloc wr _ none) (fun _ e => by cases e), BLR.out.alloc (by omega) _, E.out⟩
        case measure => simp [intOf]; omega
    · have E : Hid (hasS sp oth c = oth) := by
        show _ = _
        rw [List.take_of_length_le (by omega)] at hf
        unfold hasS; rw [hf]; rfl
      have z1 : ¬ (i : Int) < (sp.length : Int) := by omega
      clear hf br ir blr
      go_wp2_with fail
      go_ret
      exact ⟨ret_bool E.out.symm, BLR.out⟩

end Go.Proofs.YtncljgpcloanfaaDoor
