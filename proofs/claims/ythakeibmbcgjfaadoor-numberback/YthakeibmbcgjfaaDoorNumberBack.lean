/- NumberBack: for every number the call returns true, and it reads afterwards as it read before: what is shown is read to the number that it was, or is refused where it is beyond the bound. The library's tables that the road names read as its text lays them (the card ties them). -/
import Derived.Test.YthakeibmbcgjfaaDoorShowWalks
import Derived.Test.YthakeibmbcgjfaaDoorWakes
import Derived.Test.YthakeibmbcgjfaaDoorNumTabs
import Derived.Test.YthakeibmbcgjfaaDoorShaped
import Derived.Test.YthakeibmbcgjfaaDoorCards
import Derived.Test.YthakeibmbcgjfaaDoorTie
import Derived.LaidMore
import Derived.Lay
import Derived.SevenTiedAt
import Derived.Stop.Joined
namespace Go.Proofs.YthakeibmbcgjfaaDoor
open Go.ChangeShapes Go.WideShapes Go.ChangeAt Go.RowKit
open Go.ChangeMaps (open_string shut_string)

namespace numberBack
theorem range_of {a : Int} (h : (Lit.int .i64 a).wf = true) : -9223372036854775808 ≤ a ∧ a ≤ 9223372036854775807 := by
  simp [Lit.wf, IntKind.min, IntKind.max, IntKind.signed, IntKind.bits] at h
  omega
theorem tabs_of {W : World} (hL : laidMet Tryd.prog Rows.numberBackRow.laid W) : Tens W := tens_of (Lib.laidMet.reads hL (.tail _ (.tail _ (.head _))))
theorem back_size (n : Int) (h1 : -9223372036854775808 ≤ n) (h2 : n ≤ 9223372036854775807) : (txt (showL n)).size ≤ 30 := by
  rw [txt_size, tell_is]
  refine tell_len ?_ (by omega)
  split <;> simp

set_option maxHeartbeats 1000000 in
theorem walk (a0 : Int) (w0 : (Lit.int .i64 a0).wf = true) (w : World) (hT : Tens w) (hM : SomeMax w) :
    Calls Tryd.prog 5 #[.int .i64 a0] w fun e w' => e = .returned (.bool true) ∧ Below w.heap.size w w' := by
  obtain ⟨x1, x2⟩ := range_of w0
  have hz := back_size a0 x1 x2
  have hP := fun w => parse_any (txt (showL a0)) w (by omega)
  have hS := fun w => show_any a0 w x1 x2
  have hV := parse_show a0
  rw [txt_data] at hP
  have HT := hide hT
  have HM := hide hM
  clear hT hM hz w0
  rcases (show (1000000000000000000 < a0) ∨ (a0 < -1000000000000000000) ∨ (-1000000000000000000 ≤ a0 ∧ a0 ≤ 1000000000000000000) by omega) with h | h | ⟨h, h'⟩
  · rw [if_neg (by omega)] at hV
    rw [hV] at hP
    generalize txt (showL a0) = t at *
    have HS := hide hS
    have HP := hide hP
    clear hP hS hV
    go_enter Tryd.func5, Tryd.ntmps5
    go_wp2_with fail
    refine (HS.out _ HT.out).mono ?_
    rintro e v1 ⟨rfl, b1⟩
    go_wp2_with fail
    refine (HP.out _ (HM.out.below b1)).mono ?_
    rintro e v2 ⟨rfl, b2⟩
    go_wp2_with fail
    refine (wakes_any _ (HM.out.below (chain b1 b2))).mono ?_
    rintro e v3 ⟨rfl, b3⟩
    go_wp2_with fail
    go_ret
    exact ⟨rfl, (chain b1 (chain b2 b3))⟩
  · rw [if_neg (by omega)] at hV
    rw [hV] at hP
    generalize txt (showL a0) = t at *
    have HS := hide hS
    have HP := hide hP
    have h2 : a0 ≤ 1000000000000000000 := by omega
    clear hP hS hV
    go_enter Tryd.func5, Tryd.ntmps5
    go_wp2_with fail
    refine (HS.out _ HT.out).mono ?_
    rintro e v1 ⟨rfl, b1⟩
    go_wp2_with fail
    refine (HP.out _ (HM.out.below b1)).mono ?_
    rintro e v2 ⟨rfl, b2⟩
    go_wp2_with fail
    refine (wakes_any _ (HM.out.below (chain b1 b2))).mono ?_
    rintro e v3 ⟨rfl, b3⟩
    go_wp2_with fail
    go_ret
    exact ⟨rfl, (chain b1 (chain b2 b3))⟩
  · rw [if_pos (by omega)] at hV
    rw [hV] at hP
    generalize txt (showL a0) = t at *
    have HS := hide hS
    have HP := hide hP
    clear hP hS hV
    go_enter Tryd.func5, Tryd.ntmps5
    go_wp2_with fail
    refine (HS.out _ HT.out).mono ?_
    rintro e v1 ⟨rfl, b1⟩
    go_wp2_with fail
    refine (HP.out _ (HM.out.below b1)).mono ?_
    rintro e v2 ⟨rfl, b2⟩
    go_wp2_with fail
    refine (wakes_any _ (HM.out.below (chain b1 b2))).mono ?_
    rintro e v3 ⟨rfl, b3⟩
    go_wp2_with fail
    go_ret
    exact ⟨rfl, (chain b1 (chain b2 b3))⟩

theorem own : ownKnob Tryd.prog.godebug = none := by kernel_rfl

set_option maxRecDepth 100000 in
theorem lifted (os : Os) (started : os.Started) (H : Type) (enc : TypeId × Value → H) :
    ReturnsInHanded {} Tryd.checked os 5 .any (fun w args => (Rows.numberBackSpec.pre enc Tryd.prog Tryd.f5 [] false w args ∧ laidMetH Tryd.prog Rows.numberBackRow.laid w) ∧ sizedMet enc Tryd.prog Tryd.f5 (OpenSpec.ofChange Rows.numberBackSpec) false w args)
      (Rows.numberBackSpec.post enc Tryd.prog Tryd.f5 false true false false) := by
  refine handed_shaped (C := Tryd.checked) (X := fun w _ => laidMetH Tryd.prog Rows.numberBackRow.laid w) (fun _ _ _ hh h => h.of_heap hh) own started (by kernel_rfl) Tryd.func5
    (ChangeSpec.witness_shaped (enc := enc) (C := Tryd.checked) (os := os) (X := fun w _ => laidMetH Tryd.prog Rows.numberBackRow.laid w) false (World.laidAll Tryd.prog os Rows.numberBackRow.laid) #[.int .i64 0] 8 (World.laidAll_os _ _ _)
      (World.shaped_of_ZipB (by kernel_rfl) (by kernel_rfl)) (by kernel_rfl) (by kernel_rfl) (by kernel_rfl)
      (by rw [MakeChecks.laidMetH_plain _ _ _ (by kernel_rfl)]; exact laidMet_laidAll _ (by kernel_rfl) (by kernel_rfl))) ?_
  intro W base args ds gs before hval0 hW hL hsh
  have hval : ∀ (j : Nat) t v, Tryd.f5.params[j]? = some t → args[j]? = some v → Value.okWide Tryd.prog W .any base t v := hval0
  have hW' := hW
  obtain ⟨p, q, hA0, hV, rfl, _, _⟩ := hW
  have hA : DataW.TrodAll enc Tryd.prog W 0 (fun _ => true) true Tryd.f5.params.toList args.toList ds p := hA0
  rw [Tryd.params5] at hA hval
  obtain ⟨v0, vs0, d0, ds0, p0, q0, hargs, rfl, rfl, h0, r0⟩ := trodAll_cons hA
  obtain ⟨rfl, rfl, rfl⟩ := trodAll_nil r0
  obtain rfl : args = #[v0] := by cases args; simp_all
  obtain ⟨rfl, rfl⟩ := trodVars_none hV
  obtain ⟨a0, rfl, rfl, rfl, w0⟩ := open_int Tryd.underlying2 (hval 0 2 v0 rfl rfl) h0
  clear hA0 hval0
  rw [MakeChecks.laidMetH_plain _ _ _ (by kernel_rfl)] at hL
  refine (walk a0 w0 W (tabs_of hL) (max_of hsh)).mono fun e W' ⟨he, bel⟩ => ?_
  subst he
  exact ⟨_, rfl, _, _, _, [], _, [], hW', trodAll_mk1 (shut_bool Tryd.underlying4 _), (trodAll_cons_mk (shut_int Tryd.underlying2 w0) trodAll_mk0), rfl, bel.frame _, fun h => by cases h⟩

theorem over : Rows.numberBackRow.holds Tryd.pinned (OpenSpec.ofChange Rows.numberBackSpec) :=
  OpenClaim.holds_of_wide 5 Tryd.f5 rfl rfl rfl rfl rfl rfl rfl ⟨rfl, rfl, rfl, rfl, rfl⟩ rfl rfl rfl rfl rfl (by kernel_rfl) Tryd.func5 (by kernel_rfl)
    (of_decide_eq_true (by kernel_rfl)) (by unfold Func.isWrapper; first | (rw [if_pos (by decide +kernel)]; kernel_rfl) | (rw [if_neg (by decide +kernel)]; exact ⟨rfl, rfl⟩))
    (fun os started H enc _ => lifted os started H enc)

theorem card : Rows.NumberBackCardSaid :=
  Claim7.holds_tied_plain_at .later [] [.data, .data, .data, .data, .pinned] true (true, "a4c1ce4ff01733e6da8d5379a72d0739190938bc3828dc49c9c7f47fc435220e") false over (fun _ h => by cases h) (by kernel_rfl) (fun _ h => by cases h) numberBack_row_tie rfl ⟨rfl, rfl⟩ (by kernel_rfl) rfl
    (fun f fn hf hfn => by
      obtain rfl : f = 5 := Option.some.inj ((show Tryd.prog.funcNamed Rows.numberBackRow.func = some 5 by kernel_rfl).symm.trans hf) |>.symm
      obtain rfl : fn = Tryd.f5 := (Option.some.inj (Tryd.func5.symm.trans hfn)).symm
      exact ⟨by kernel_rfl, fun j t ht => by
        rw [Tryd.params5] at ht
        have hm : t ∈ [2] := by simpa using Array.mem_of_getElem? ht
        have hall : ([2].all fun u => !Tryd.prog.wantsStandIn u) = true := by kernel_rfl
        exact (show Tryd.prog.wantsStandIn t = false by simpa using List.all_eq_true.1 hall t hm)⟩)
    (by kernel_rfl)
end numberBack

theorem numberBack_holds : Rows.NumberBackCardSaid := numberBack.card
#print axioms numberBack_holds
end Go.Proofs.YthakeibmbcgjfaaDoor
