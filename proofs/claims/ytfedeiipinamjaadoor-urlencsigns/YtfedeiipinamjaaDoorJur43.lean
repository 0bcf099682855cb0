/- Entries told by a text and read again, as functions of lists. Stage 19's laws UrlencJoins, UrlencSigns, walked. -/
import Derived.Test.YtfedeiipinamjaaDoorJur8
import Derived.Test.YtfedeiipinamjaaDoorJur12
import Derived.Test.YtfedeiipinamjaaDoorJur17
import Derived.Test.YtfedeiipinamjaaDoorJur30
import Derived.Test.YtfedeiipinamjaaDoorJur31

namespace Go.Proofs.YtfedeiipinamjaaDoor
open Go.RowKit
/-- The signs of a text of entries. -/
def urlB (c : UInt8) : Bool := plainB c || hasB [42, 45, 46, 95, 43, 37, 38, 61] c
theorem frm_url {c : UInt8} (h : frmB c = true) : urlB c = true := by
  unfold frmB at h
  unfold urlB
  cases hp : plainB c with
  | true => rfl
  | false =>
    rw [hp, Bool.false_or] at h
    rw [Bool.false_or]
    unfold hasB at h ⊢
    rw [List.contains_iff_mem] at h ⊢
    simp only [List.mem_cons, List.not_mem_nil, or_false] at h ⊢
    rcases h with h | h | h | h | h | h <;> simp [h]
theorem join_mem {c x : UInt8} : ∀ {ps : List (List UInt8)}, x ∈ joinL c ps → x = c ∨ ∃ p ∈ ps, x ∈ p
  | [], h => by cases h
  | [p], h => .inr ⟨p, List.mem_cons_self, h⟩
  | p :: q :: ps, h => by
    have h : x ∈ p ++ c :: joinL c (q :: ps) := h
    rw [List.mem_append, List.mem_cons] at h
    rcases h with h | h | h
    · exact .inr ⟨p, List.mem_cons_self, h⟩
    · exact .inl h
    · rcases join_mem h with h | ⟨r, hr, hx⟩
      · exact .inl h
      · exact .inr ⟨r, List.mem_cons_of_mem _ hr, hx⟩
theorem signs_u (l : List En) : ∀ c ∈ encU l, urlB c = true := by
  intro c hc
  unfold encU at hc
  rcases join_mem hc with rfl | ⟨p, hp, hx⟩
  · decide
  · obtain ⟨e, _, rfl⟩ := List.mem_map.1 hp
    unfold encE at hx
    rw [List.mem_append, List.mem_cons] at hx
    rcases hx with h | rfl | h
    · exact frm_url (form_signs _ _ h)
    · decide
    · exact frm_url (form_signs _ _ h)
end Go.Proofs.YtfedeiipinamjaaDoor

namespace Go.Proofs.YtfedeiipinamjaaDoor
open Go.RowKit
set_option maxRecDepth 100000
theorem url_ways (c : UInt8) (h : urlB c = true) : (97 ≤ (c.toNat : Int) ∧ (c.toNat : Int) ≤ 122) ∨ (65 ≤ (c.toNat : Int) ∧ (c.toNat : Int) ≤ 90) ∨ (48 ≤ (c.toNat : Int) ∧ (c.toNat : Int) ≤ 57) ∨ ((c.toNat : Int) = 42) ∨ ((c.toNat : Int) = 45) ∨ ((c.toNat : Int) = 46) ∨ ((c.toNat : Int) = 95) ∨ ((c.toNat : Int) = 43) ∨ ((c.toNat : Int) = 37) ∨ ((c.toNat : Int) = 38) ∨ ((c.toNat : Int) = 61) := by
  unfold urlB at h
  rw [Bool.or_eq_true] at h
  rcases h with h | h
  · unfold plainB at h
    have h := of_decide_eq_true h
    omega
  · unfold hasB at h
    rw [List.contains_iff_mem] at h
    simp only [List.mem_cons, List.not_mem_nil, or_false] at h
    rcases h with rfl | rfl | rfl | rfl | rfl | rfl | rfl | rfl <;> decide
set_option maxHeartbeats 8000000 in
theorem urlencSigns_walk (v : Value) (l : List En) (w : World) (hv : FilesV w v l) (hf : l.length ≤ 4398046511104) (hT : UrTabs w) :
    Calls Tryd.prog 7 #[v] w fun e w' => e = .returned (.bool true) ∧ Below w.heap.size w w' := by
  have FV := hide hv
  have HW := hide (urWakes_any w hT)
  have HLg := hide (fun W (hb : Below w.heap.size w W) => refLong_any v l W (FV.out.below hb) hf)
  cases lg : longU l with
  | true =>
    rw [lg] at HLg
    obtain ⟨p, c, rfl⟩ := files_formU hv
    clear hv hf hT lg FV
    go_enter Tryd.func7, Tryd.ntmps7
    go_wp2_with fail
    refine HW.out.mono ?_
    rintro e w1 ⟨rfl, b1⟩
    go_wp2_with fail
    refine (HLg.out _ b1).mono ?_
    rintro e w2 ⟨rfl, hu⟩
    obtain rfl : w1 = w2 := hu.symm
    go_wp2_with fail
    go_ret
    exact ⟨rfl, b1⟩
  | false =>
    obtain ⟨l60, hok⟩ := long_ok lg
    rw [lg] at HLg
    have HEn := hide (fun W (hb : Below w.heap.size w W) => urEncode_any 2000 v l W (FV.out.below hb) (by omega) hok (hT.below hb))
    have zu := ur_size hok
    have HU : Hid (∀ k (h : k < (urlS l).size), urlB (urlS l)[k] = true) := fun k h => signs_u l _ (by
      rw [show (urlS l)[k] = (encU l)[k]'h from txt_at (encU l) k h]
      exact List.getElem_mem _)
    obtain ⟨p, c, rfl⟩ := files_formU hv
    clear hv hf hT lg hok FV
    generalize urlS l = us at *
    go_enter Tryd.func7, Tryd.ntmps7
    go_wp2_with fail
    refine HW.out.mono ?_
    rintro e w1 ⟨rfl, b1⟩
    go_wp2_with fail
    refine (HLg.out _ b1).mono ?_
    rintro e w2 ⟨rfl, hu⟩
    obtain rfl : w1 = w2 := hu.symm
    go_wp2_with fail
    refine (HEn.out _ b1).mono ?_
    rintro e w3 ⟨rfl, b3⟩
    have B3 := hide (chain b1 b3)
    clear b1 b3 HEn HW HLg
    go_wp2_with fail
    go_loop [15] (fun iv => ∃ k : Nat, k ≤ us.size ∧ iv = .int .i64 k) (fun iv => us.size - (intOf iv).toNat)
    case atStart => exact ⟨0, Nat.zero_le _, rfl⟩
    case round =>
      obtain ⟨k, hk, rfl⟩ := hrel
      by_cases g : k < us.size
      · have k1 : (k : Int) < (us.size : Int) := by omega
        have k0 : (0 : Int) ≤ (k : Int) := by omega
        have h := url_ways us[k] (HU.out k g)
        rcases h with h | h | h | h | h | h | h | h | h | h | h
        · have d0 : decide (97 ≤ (us[k].toNat : Int)) = true := decide_eq_true (by omega)
          have d1 : decide ((us[k].toNat : Int) ≤ 122) = true := decide_eq_true (by omega)
          clear h HU
          go_wp2_with fail
          go_round
          case rel => exact ⟨k + 1, by omega, by go_num⟩
          case measure => simp [intOf]; omega
        · have d0 : decide (97 ≤ (us[k].toNat : Int)) = false := decide_eq_false (by omega)
          have d1 : decide (65 ≤ (us[k].toNat : Int)) = true := decide_eq_true (by omega)
          have d2 : decide ((us[k].toNat : Int) ≤ 90) = true := decide_eq_true (by omega)
          clear h HU
          go_wp2_with fail
          go_round
          case rel => exact ⟨k + 1, by omega, by go_num⟩
          case measure => simp [intOf]; omega
        · have d0 : decide (97 ≤ (us[k].toNat : Int)) = false := decide_eq_false (by omega)
          have d1 : decide (65 ≤ (us[k].toNat : Int)) = false := decide_eq_false (by omega)
          have d2 : decide (48 ≤ (us[k].toNat : Int)) = true := decide_eq_true (by omega)
          have d3 : decide ((us[k].toNat : Int) ≤ 57) = true := decide_eq_true (by omega)
          clear h HU
          go_wp2_with fail
          go_round
          case rel => exact ⟨k + 1, by omega, by go_num⟩
          case measure => simp [intOf]; omega
        · have d0 : decide (97 ≤ (us[k].toNat : Int)) = false := decide_eq_false (by omega)
          have d1 : decide (65 ≤ (us[k].toNat : Int)) = false := decide_eq_false (by omega)
          have d2 : decide (48 ≤ (us[k].toNat : Int)) = false := decide_eq_false (by omega)
          have e3 : ((us[k].toNat : Int) != 42) = false := by rw [h]; rfl
          clear h HU
          go_wp2_with fail
          go_round
          case rel => exact ⟨k + 1, by omega, by go_num⟩
          case measure => simp [intOf]; omega
        · have d0 : decide (97 ≤ (us[k].toNat : Int)) = false := decide_eq_false (by omega)
          have d1 : decide (65 ≤ (us[k].toNat : Int)) = false := decide_eq_false (by omega)
          have d2 : decide (48 ≤ (us[k].toNat : Int)) = false := decide_eq_false (by omega)
          have e3 : ((us[k].toNat : Int) != 42) = true := by rw [h]; rfl
          have e4 : ((us[k].toNat : Int) != 45) = false := by rw [h]; rfl
          clear h HU
          go_wp2_with fail
          go_round
          case rel => exact ⟨k + 1, by omega, by go_num⟩
          case measure => simp [intOf]; omega
        · have d0 : decide (97 ≤ (us[k].toNat : Int)) = false := decide_eq_false (by omega)
          have d1 : decide (65 ≤ (us[k].toNat : Int)) = false := decide_eq_false (by omega)
          have d2 : decide (48 ≤ (us[k].toNat : Int)) = false := decide_eq_false (by omega)
          have e3 : ((us[k].toNat : Int) != 42) = true := by rw [h]; rfl
          have e4 : ((us[k].toNat : Int) != 45) = true := by rw [h]; rfl
          have e5 : ((us[k].toNat : Int) != 46) = false := by rw [h]; rfl
          clear h HU
          go_wp2_with fail
          go_round
          case rel => exact ⟨k + 1, by omega, by go_num⟩
          case measure => simp [intOf]; omega
        · have d0 : decide (97 ≤ (us[k].toNat : Int)) = false := decide_eq_false (by omega)
          have d1 : decide (65 ≤ (us[k].toNat : Int)) = true := decide_eq_true (by omega)
          have d2 : decide ((us[k].toNat : Int) ≤ 90) = false := decide_eq_false (by omega)
          have d3 : decide (48 ≤ (us[k].toNat : Int)) = true := decide_eq_true (by omega)
          have d4 : decide ((us[k].toNat : Int) ≤ 57) = false := decide_eq_false (by omega)
          have e5 : ((us[k].toNat : Int) != 42) = true := by rw [h]; rfl
          have e6 : ((us[k].toNat : Int) != 45) = true := by rw [h]; rfl
          have e7 : ((us[k].toNat : Int) != 46) = true := by rw [h]; rfl
          have e8 : ((us[k].toNat : Int) != 95) = false := by rw [h]; rfl
          clear h HU
          go_wp2_with fail
          go_round
          case rel => exact ⟨k + 1, by omega, by go_num⟩
          case measure => simp [intOf]; omega
        · have d0 : decide (97 ≤ (us[k].toNat : Int)) = false := decide_eq_false (by omega)
          have d1 : decide (65 ≤ (us[k].toNat : Int)) = false := decide_eq_false (by omega)
          have d2 : decide (48 ≤ (us[k].toNat : Int)) = false := decide_eq_false (by omega)
          have e3 : ((us[k].toNat : Int) != 42) = true := by rw [h]; rfl
          have e4 : ((us[k].toNat : Int) != 45) = true := by rw [h]; rfl
          have e5 : ((us[k].toNat : Int) != 46) = true := by rw [h]; rfl
          have e6 : ((us[k].toNat : Int) != 95) = true := by rw [h]; rfl
          have e7 : ((us[k].toNat : Int) != 43) = false := by rw [h]; rfl
          clear h HU
          go_wp2_with fail
          go_round
          case rel => exact ⟨k + 1, by omega, by go_num⟩
          case measure => simp [intOf]; omega
        · have d0 : decide (97 ≤ (us[k].toNat : Int)) = false := decide_eq_false (by omega)
          have d1 : decide (65 ≤ (us[k].toNat : Int)) = false := decide_eq_false (by omega)
          have d2 : decide (48 ≤ (us[k].toNat : Int)) = false := decide_eq_false (by omega)
          have e3 : ((us[k].toNat : Int) != 42) = true := by rw [h]; rfl
          have e4 : ((us[k].toNat : Int) != 45) = true := by rw [h]; rfl
          have e5 : ((us[k].toNat : Int) != 46) = true := by rw [h]; rfl
          have e6 : ((us[k].toNat : Int) != 95) = true := by rw [h]; rfl
          have e7 : ((us[k].toNat : Int) != 43) = true := by rw [h]; rfl
          have e8 : ((us[k].toNat : Int) != 37) = false := by rw [h]; rfl
          clear h HU
          go_wp2_with fail
          go_round
          case rel => exact ⟨k + 1, by omega, by go_num⟩
          case measure => simp [intOf]; omega
        · have d0 : decide (97 ≤ (us[k].toNat : Int)) = false := decide_eq_false (by omega)
          have d1 : decide (65 ≤ (us[k].toNat : Int)) = false := decide_eq_false (by omega)
          have d2 : decide (48 ≤ (us[k].toNat : Int)) = false := decide_eq_false (by omega)
          have e3 : ((us[k].toNat : Int) != 42) = true := by rw [h]; rfl
          have e4 : ((us[k].toNat : Int) != 45) = true := by rw [h]; rfl
          have e5 : ((us[k].toNat : Int) != 46) = true := by rw [h]; rfl
          have e6 : ((us[k].toNat : Int) != 95) = true := by rw [h]; rfl
          have e7 : ((us[k].toNat : Int) != 43) = true := by rw [h]; rfl
          have e8 : ((us[k].toNat : Int) != 37) = true := by rw [h]; rfl
          have e9 : ((us[k].toNat : Int) != 38) = false := by rw [h]; rfl
          clear h HU
          go_wp2_with fail
          go_round
          case rel => exact ⟨k + 1, by omega, by go_num⟩
          case measure => simp [intOf]; omega
        · have d0 : decide (97 ≤ (us[k].toNat : Int)) = false := decide_eq_false (by omega)
          have d1 : decide (65 ≤ (us[k].toNat : Int)) = false := decide_eq_false (by omega)
          have d2 : decide (48 ≤ (us[k].toNat : Int)) = true := decide_eq_true (by omega)
          have d3 : decide ((us[k].toNat : Int) ≤ 57) = false := decide_eq_false (by omega)
          have e4 : ((us[k].toNat : Int) != 42) = true := by rw [h]; rfl
          have e5 : ((us[k].toNat : Int) != 45) = true := by rw [h]; rfl
          have e6 : ((us[k].toNat : Int) != 46) = true := by rw [h]; rfl
          have e7 : ((us[k].toNat : Int) != 95) = true := by rw [h]; rfl
          have e8 : ((us[k].toNat : Int) != 43) = true := by rw [h]; rfl
          have e9 : ((us[k].toNat : Int) != 37) = true := by rw [h]; rfl
          have e10 : ((us[k].toNat : Int) != 38) = true := by rw [h]; rfl
          have e11 : ((us[k].toNat : Int) != 61) = false := by rw [h]; rfl
          clear h HU
          go_wp2_with fail
          go_round
          case rel => exact ⟨k + 1, by omega, by go_num⟩
          case measure => simp [intOf]; omega
      · obtain rfl : k = us.size := by omega
        clear HU
        go_wp2_with fail
        go_ret
        exact ⟨rfl, B3.out⟩

end Go.Proofs.YtfedeiipinamjaaDoor
