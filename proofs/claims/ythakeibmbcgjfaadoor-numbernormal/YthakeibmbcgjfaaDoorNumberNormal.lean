/- NumberNormal: for every text the call returns true, and it reads afterwards as it read before: what is read is shown by a text that is read alike, and that is no longer, but for one sign; what is refused is 0. The library's tables that the road names read as its text lays them (the card ties them). -/
import Derived.Test.YthakeibmbcgjfaaDoorShowWalks
import Derived.Test.YthakeibmbcgjfaaDoorWakes
import Derived.Test.YthakeibmbcgjfaaDoorNumTabs
import Derived.Test.YthakeibmbcgjfaaDoorShaped
import Derived.Test.YthakeibmbcgjfaaDoorCards
import Derived.Test.YthakeibmbcgjfaaDoorTie
import Derived.LaidMore
import Derived.Lay
import Derived.SevenTiedAt
import Derived.Stop.Joined
namespace Go.Proofs.YthakeibmbcgjfaaDoor
open Go.ChangeShapes Go.WideShapes Go.ChangeAt Go.RowKit
open Go.ChangeMaps (open_string shut_string)

namespace numberNormal
theorem tabs_of {W : World} (hL : laidMet Tryd.prog Rows.numberNormalRow.laid W) : Tens W := tens_of (Lib.laidMet.reads hL (.tail _ (.tail _ (.head _))))
theorem parse_err (l : List UInt8) : parseV l = (0, 1) ∨ parseV l = (0, 2) ∨ ∃ n, parseV l = (n, 0) := by
  unfold parseV
  cases partsV (bodyV l) with
  | none => exact .inl rfl
  | some x =>
    obtain ⟨a, f⟩ := x
    simp only
    unfold numV
    split
    · exact .inr (.inl rfl)
    · exact .inr (.inr ⟨_, rfl⟩)
theorem long_no {s : ByteArray} (h : ¬ (16384 : Int) < (s.size : Int)) : s.size < 4294967281 := by omega

set_option maxHeartbeats 1000000 in
theorem walk (a0 : ByteArray) (_w0 : a0.size ≤ maxLen) (w : World) (hT : Tens w) (hM : SomeMax w) :
    Calls Tryd.prog 6 #[.string a0] w fun e w' => e = .returned (.bool true) ∧ Below w.heap.size w w' := by
  have HT := hide hT
  have HM := hide hM
  clear hT hM
  by_cases ha : (16384 : Int) < (a0.size : Int)
  · go_enter Tryd.func6, Tryd.ntmps6
    go_wp2_with fail
    refine (wakes_any _ HM.out).mono ?_
    rintro e v1 ⟨rfl, b1⟩
    go_wp2_with fail
    go_ret
    exact ⟨rfl, b1⟩
  · have hP := fun w => parse_any a0 w (long_no ha)
    rcases parse_err a0.data.toList with h | h | ⟨n, h⟩
    · rw [h] at hP
      have HP := hide hP
      clear hP h
      go_enter Tryd.func6, Tryd.ntmps6
      go_wp2_with fail
      refine (wakes_any _ HM.out).mono ?_
      rintro e v1 ⟨rfl, b1⟩
      go_wp2_with fail
      refine (HP.out _ (HM.out.below b1)).mono ?_
      rintro e v2 ⟨rfl, b2⟩
      go_wp2_with fail
      go_ret
      exact ⟨rfl, (chain b1 b2)⟩
    · rw [h] at hP
      have HP := hide hP
      clear hP h
      go_enter Tryd.func6, Tryd.ntmps6
      go_wp2_with fail
      refine (wakes_any _ HM.out).mono ?_
      rintro e v1 ⟨rfl, b1⟩
      go_wp2_with fail
      refine (HP.out _ (HM.out.below b1)).mono ?_
      rintro e v2 ⟨rfl, b2⟩
      go_wp2_with fail
      go_ret
      exact ⟨rfl, (chain b1 b2)⟩
    · rw [h] at hP
      have ⟨hn, hl⟩ := parse_normal h
      have hV := parse_show n
      rw [if_pos hn] at hV
      have hlen : ((txt (showL n)).size : Int) ≤ (a0.size : Int) + 1 := by
        have e : a0.data.toList.length = a0.size := by simp
        rw [txt_size]; omega
      have hS := fun w => show_any n w (by omega) (by omega)
      have hQ := fun w => parse_any (txt (showL n)) w (by omega)
      rw [txt_data, hV] at hQ
      generalize txt (showL n) = t at *
      have HP := hide hP
      have HS := hide hS
      have HQ := hide hQ
      clear hP h hS hQ hV hn hl
      go_enter Tryd.func6, Tryd.ntmps6
      go_wp2_with fail
      refine (wakes_any _ HM.out).mono ?_
      rintro e v1 ⟨rfl, b1⟩
      go_wp2_with fail
      refine (HP.out _ (HM.out.below b1)).mono ?_
      rintro e v2 ⟨rfl, b2⟩
      go_wp2_with fail
      refine (HS.out _ (HT.out.below (chain b1 b2))).mono ?_
      rintro e v3 ⟨rfl, b3⟩
      go_wp2_with fail
      refine (HQ.out _ (HM.out.below (chain b1 (chain b2 b3)))).mono ?_
      rintro e v4 ⟨rfl, b4⟩
      go_wp2_with fail
      go_ret
      exact ⟨rfl, (chain b1 (chain b2 (chain b3 b4)))⟩

theorem own : ownKnob Tryd.prog.godebug = none := by kernel_rfl

set_option maxRecDepth 100000 in
theorem lifted (os : Os) (started : os.Started) (H : Type) (enc : TypeId × Value → H) :
    ReturnsInHanded {} Tryd.checked os 6 .any (fun w args => (Rows.numberNormalSpec.pre enc Tryd.prog Tryd.f6 [] false w args ∧ laidMetH Tryd.prog Rows.numberNormalRow.laid w) ∧ sizedMet enc Tryd.prog Tryd.f6 (OpenSpec.ofChange Rows.numberNormalSpec) false w args)
      (Rows.numberNormalSpec.post enc Tryd.prog Tryd.f6 false true false false) := by
  refine handed_shaped (C := Tryd.checked) (X := fun w _ => laidMetH Tryd.prog Rows.numberNormalRow.laid w) (fun _ _ _ hh h => h.of_heap hh) own started (by kernel_rfl) Tryd.func6
    (ChangeSpec.witness_shaped (enc := enc) (C := Tryd.checked) (os := os) (X := fun w _ => laidMetH Tryd.prog Rows.numberNormalRow.laid w) false (World.laidAll Tryd.prog os Rows.numberNormalRow.laid) #[.string ByteArray.empty] 8 (World.laidAll_os _ _ _)
      (World.shaped_of_ZipB (by kernel_rfl) (by kernel_rfl)) (by kernel_rfl) (by kernel_rfl) (by kernel_rfl)
      (by rw [MakeChecks.laidMetH_plain _ _ _ (by kernel_rfl)]; exact laidMet_laidAll _ (by kernel_rfl) (by kernel_rfl))) ?_
  intro W base args ds gs before hval0 hW hL hsh
  have hval : ∀ (j : Nat) t v, Tryd.f6.params[j]? = some t → args[j]? = some v → Value.okWide Tryd.prog W .any base t v := hval0
  have hW' := hW
  obtain ⟨p, q, hA0, hV, rfl, _, _⟩ := hW
  have hA : DataW.TrodAll enc Tryd.prog W 0 (fun _ => true) true Tryd.f6.params.toList args.toList ds p := hA0
  rw [Tryd.params6] at hA hval
  obtain ⟨v0, vs0, d0, ds0, p0, q0, hargs, rfl, rfl, h0, r0⟩ := trodAll_cons hA
  obtain ⟨rfl, rfl, rfl⟩ := trodAll_nil r0
  obtain rfl : args = #[v0] := by cases args; simp_all
  obtain ⟨rfl, rfl⟩ := trodVars_none hV
  obtain ⟨a0, rfl, rfl, rfl, w0⟩ := open_string Tryd.underlying9 (hval 0 9 v0 rfl rfl) h0
  clear hA0 hval0
  rw [MakeChecks.laidMetH_plain _ _ _ (by kernel_rfl)] at hL
  refine (walk a0 w0 W (tabs_of hL) (max_of hsh)).mono fun e W' ⟨he, bel⟩ => ?_
  subst he
  exact ⟨_, rfl, _, _, _, [], _, [], hW', trodAll_mk1 (shut_bool Tryd.underlying4 _), (trodAll_cons_mk (shut_string Tryd.underlying9 w0) trodAll_mk0), rfl, bel.frame _, fun h => by cases h⟩

theorem over : Rows.numberNormalRow.holds Tryd.pinned (OpenSpec.ofChange Rows.numberNormalSpec) :=
  OpenClaim.holds_of_wide 6 Tryd.f6 rfl rfl rfl rfl rfl rfl rfl ⟨rfl, rfl, rfl, rfl, rfl⟩ rfl rfl rfl rfl rfl (by kernel_rfl) Tryd.func6 (by kernel_rfl)
    (of_decide_eq_true (by kernel_rfl)) (by unfold Func.isWrapper; first | (rw [if_pos (by decide +kernel)]; kernel_rfl) | (rw [if_neg (by decide +kernel)]; exact ⟨rfl, rfl⟩))
    (fun os started H enc _ => lifted os started H enc)

theorem card : Rows.NumberNormalCardSaid :=
  Claim7.holds_tied_plain_at .later [] [.data, .data, .data, .data, .pinned] true (true, "a4c1ce4ff01733e6da8d5379a72d0739190938bc3828dc49c9c7f47fc435220e") false over (fun _ h => by cases h) (by kernel_rfl) (fun _ h => by cases h) numberNormal_row_tie rfl ⟨rfl, rfl⟩ (by kernel_rfl) rfl
    (fun f fn hf hfn => by
      obtain rfl : f = 6 := Option.some.inj ((show Tryd.prog.funcNamed Rows.numberNormalRow.func = some 6 by kernel_rfl).symm.trans hf) |>.symm
      obtain rfl : fn = Tryd.f6 := (Option.some.inj (Tryd.func6.symm.trans hfn)).symm
      exact ⟨by kernel_rfl, fun j t ht => by
        rw [Tryd.params6] at ht
        have hm : t ∈ [9] := by simpa using Array.mem_of_getElem? ht
        have hall : ([9].all fun u => !Tryd.prog.wantsStandIn u) = true := by kernel_rfl
        exact (show Tryd.prog.wantsStandIn t = false by simpa using List.all_eq_true.1 hall t hm)⟩)
    (by kernel_rfl)
end numberNormal

theorem numberNormal_holds : Rows.NumberNormalCardSaid := numberNormal.card
#print axioms numberNormal_holds
end Go.Proofs.YthakeibmbcgjfaaDoor
