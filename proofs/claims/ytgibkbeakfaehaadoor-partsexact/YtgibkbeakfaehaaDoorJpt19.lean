/- A control's state as it lies in the world. The document's Pairs of layer 1, Long and Plain of layer 19. -/
import Derived.Test.YtgibkbeakfaehaaDoorJpt10
import Derived.Deep.AppendLies
import Derived.Maps.AppendAt
import Derived.Laws.OwnMore

namespace Go.Proofs.YtgibkbeakfaehaaDoor
open Go.RowKit
/-- Files that a statement takes. -/
structure FsOK (fs : List En) : Prop where
  len : fs.length ≤ 4398046511104
  few : fs.length * 72 ≤ 140737488355328
  name : ∀ e ∈ fs, e.fname.size ≤ 140737488355328
  rest : ∀ e ∈ fs, e.name.size ≤ 140737488355328 ∧ e.val.size ≤ 140737488355328 ∧ e.typ.size ≤ 140737488355328
end Go.Proofs.YtgibkbeakfaehaaDoor

namespace Go.Proofs.YtgibkbeakfaehaaDoor
open Go.RowKit
set_option maxRecDepth 100000
/-- More entries, or longer texts, than a statement takes. -/
def bigE (e : En) : Bool := decide (2000 < e.name.size) || (decide (2000 < e.val.size) || (decide (2000 < e.fname.size) || decide (2000 < e.typ.size)))
def longU (l : List En) : Bool := decide (60 < l.length) || l.any bigE
theorem long_ok {l : List En} (h : longU l = false) : l.length ≤ 60 ∧ EnsOK 2000 l := by
  unfold longU at h
  rw [Bool.or_eq_false_iff, decide_eq_false_iff_not] at h
  have hl : l.length ≤ 60 := by omega
  refine ⟨hl, by omega, fun e he => ?_⟩
  have := List.any_eq_false.1 h.2 e he
  unfold bigE at this
  have this : (decide (2000 < e.name.size) || (decide (2000 < e.val.size) || (decide (2000 < e.fname.size) || decide (2000 < e.typ.size)))) = false := by simpa using this
  rw [Bool.or_eq_false_iff, Bool.or_eq_false_iff, Bool.or_eq_false_iff] at this
  simp only [decide_eq_false_iff_not] at this
  omega
theorem any_take {α : Type} (f : α → Bool) (l : List α) {k : Nat} (h : k < l.length) : (l.take (k + 1)).any f = ((l.take k).any f || f l[k]) := by
  rw [List.take_succ_eq_append_getElem h, List.any_append]; simp
theorem any_hit {α : Type} {f : α → Bool} {l : List α} {k : Nat} (h : k < l.length) (hf : f l[k] = true) : l.any f = true := List.any_eq_true.2 ⟨l[k], List.getElem_mem h, hf⟩
set_option maxHeartbeats 4000000 in
theorem refLong_any (v : Value) (l : List En) (w : World) (hv : FilesV w v l) (hl : l.length ≤ 4398046511104) :
    Calls Tryd.prog 9 #[v] w fun e w' => e = .returned (.bool (longU l)) ∧ w' = w := by
  obtain ⟨p, c, rfl, hv⟩ := hv
  by_cases h60 : 60 < l.length
  · have E : Hid (longU l = true) := by show _ = _; unfold longU; rw [decide_eq_true h60]; rfl
    have d : decide (60 < (l.length : Int)) = true := decide_eq_true (by omega)
    clear hv
    go_enter Tryd.func9, Tryd.ntmps9
    go_wp2_with fail
    go_ret
    exact ⟨ret_bool E.out.symm, rfl⟩
  · have E : Hid (longU l = l.any bigE) := by show _ = _; unfold longU; rw [decide_eq_false h60]; rfl
    have d : decide (60 < (l.length : Int)) = false := decide_eq_false (by omega)
    have HV := hide hv
    clear hv
    go_enter Tryd.func9, Tryd.ntmps9
    go_wp2_with fail
    go_loop [3] (fun iv => ∃ k : Nat, k ≤ l.length ∧ iv = .int .i64 k ∧ Hid ((l.take k).any bigE = false)) (fun iv => l.length - (intOf iv).toNat)
    case atStart => exact ⟨0, Nat.zero_le _, rfl, rfl⟩
    case round =>
      obtain ⟨k, hk, rfl, hn⟩ := hrel
      by_cases g : k < l.length
      · have k1 : (k : Int) < (l.length : Int) := by omega
        have k0 : (0 : Int) ≤ (k : Int) := by omega
        obtain ⟨b, o, rfl, hc⟩ : ∃ b o, p = some ⟨b, o, none⟩ ∧ ∀ i (h : i < l.length), EnAt w b (o + i * 5) l[i] := by
          rcases HV.out with t | t
          · rw [t] at g; simp at g
          · exact t
        have EA := hc k g
        have a0 := EA.c0
        have a1 := EA.c1
        have a3 := EA.c3
        have a4 := EA.c4
        have NX : Hid (bigE l[k] = false → (l.take (k + 1)).any bigE = false) := fun t => by rw [any_take bigE l g, hn.out, t]; rfl
        have HT : Hid (bigE l[k] = true → longU l = true) := fun t => by rw [E.out]; exact any_hit g t
        have EB : Hid (bigE l[k] = (decide (2000 < l[k].name.size) || (decide (2000 < l[k].val.size) || (decide (2000 < l[k].fname.size) || decide (2000 < l[k].typ.size))))) := rfl
        clear hc EA HV hn E
        generalize bigE l[k] = B at *
        generalize l[k].name = t0 at *
        generalize l[k].val = t1 at *
        generalize l[k].fname = t2 at *
        generalize l[k].typ = t3 at *
        by_cases q0 : 2000 < t0.size
        · have R1 := hide (HT.out (by rw [EB.out, decide_eq_true q0]; simp))
          have d0 : decide (2000 < (t0.size : Int)) = true := decide_eq_true (by omega)
          clear EB HT NX
          go_wp2_with fail
          go_ret
          exact ⟨ret_bool R1.out.symm, rfl⟩
        · skip
          by_cases q1 : 2000 < t1.size
          · have R1 := hide (HT.out (by rw [EB.out, decide_eq_false q0, decide_eq_true q1]; simp))
            have d0 : decide (2000 < (t0.size : Int)) = false := decide_eq_false (by omega)
            have d1 : decide (2000 < (t1.size : Int)) = true := decide_eq_true (by omega)
            clear EB HT NX
            go_wp2_with fail
            go_ret
            exact ⟨ret_bool R1.out.symm, rfl⟩
          · skip
            by_cases q2 : 2000 < t2.size
            · have R1 := hide (HT.out (by rw [EB.out, decide_eq_false q0, decide_eq_false q1, decide_eq_true q2]; simp))
              have d0 : decide (2000 < (t0.size : Int)) = false := decide_eq_false (by omega)
              have d1 : decide (2000 < (t1.size : Int)) = false := decide_eq_false (by omega)
              have d2 : decide (2000 < (t2.size : Int)) = true := decide_eq_true (by omega)
              clear EB HT NX
              go_wp2_with fail
              go_ret
              exact ⟨ret_bool R1.out.symm, rfl⟩
            · skip
              by_cases q3 : 2000 < t3.size
              · have R1 := hide (HT.out (by rw [EB.out, decide_eq_false q0, decide_eq_false q1, decide_eq_false q2, decide_eq_true q3]; simp))
                have d0 : decide (2000 < (t0.size : Int)) = false := decide_eq_false (by omega)
                have d1 : decide (2000 < (t1.size : Int)) = false := decide_eq_false (by omega)
                have d2 : decide (2000 < (t2.size : Int)) = false := decide_eq_false (by omega)
                have d3 : decide (2000 < (t3.size : Int)) = true := decide_eq_true (by omega)
                clear EB HT NX
                go_wp2_with fail
                go_ret
                exact ⟨ret_bool R1.out.symm, rfl⟩
              · have R1 := hide (NX.out (by rw [EB.out, decide_eq_false q0, decide_eq_false q1, decide_eq_false q2, decide_eq_false q3]; rfl))
                have d0 : decide (2000 < (t0.size : Int)) = false := decide_eq_false (by omega)
                have d1 : decide (2000 < (t1.size : Int)) = false := decide_eq_false (by omega)
                have d2 : decide (2000 < (t2.size : Int)) = false := decide_eq_false (by omega)
                have d3 : decide (2000 < (t3.size : Int)) = false := decide_eq_false (by omega)
                clear EB HT NX
                go_wp2_with fail
                go_round
                case rel => exact ⟨k + 1, by omega, by go_num, R1⟩
                case measure => simp [intOf]; omega
      · obtain rfl : k = l.length := by omega
        have R1 : Hid (longU l = false) := by show _ = _; rw [E.out, ← hn.out, List.take_length]
        clear HV hn E
        go_wp2_with fail
        go_ret
        exact ⟨ret_bool R1.out.symm, rfl⟩

end Go.Proofs.YtgibkbeakfaehaaDoor
