/- TextCollapse: for every text the call returns true, and the text reads afterwards as it read before: runs of blanks become one as the document's answer has it, and done again nothing is changed. The two tables of unicode/utf8 that the road names read as the program's text lays them (the card ties them). -/
import Derived.Test.YtgfbcooeilodmaaDoorWordsWalks
import Derived.Test.YtgfbcooeilodmaaDoorLong
import Derived.Test.YtgfbcooeilodmaaDoorCards
import Derived.Test.YtgfbcooeilodmaaDoorTie
import Derived.LaidMore
import Derived.Lay
import Derived.SevenTiedAt
import Derived.Stop.Joined
namespace Go.Proofs.YtgfbcooeilodmaaDoor
open Go.ChangeShapes Go.WideShapes Go.ChangeAt Go.RowKit
open Go.ChangeMaps (open_string shut_string)

namespace textCollapse
theorem first_A : collapseS ⟨#[32, 97, 32, 32, 98, 32]⟩ = ⟨#[97, 32, 98]⟩ := by decide +kernel

set_option maxHeartbeats 1000000 in
theorem walk (a0 : ByteArray) (_w0 : a0.size ≤ maxLen) (w : World) :
    Calls Tryd.prog 5 #[.string a0] w fun e w' => e = .returned (.bool true) ∧ Below w.heap.size w w' := by
  have hA := fun w => collapse_any ⟨#[32, 97, 32, 32, 98, 32]⟩ w (by decide)
  rw [first_A] at hA
  have HA := hide hA
  clear hA
  have l1 := collapseS_size a0
  have l2 := stripS_size a0
  have E1 := hide (collapseS_again a0)
  have E2 := hide (stripS_collapse a0)
  have E3 := hide (collapseS_strip a0)
  by_cases ha : (65536 : Int) < (a0.size : Int)
  · go_enter Tryd.func5, Tryd.ntmps5
    go_wp2_with fail
    refine (HA.out _).mono ?_
    rintro e v1 ⟨rfl, b1⟩
    go_wp2_with fail
    refine (long_any a0 _).mono ?_
    rintro e u1 ⟨rfl, rfl⟩
    go_wp2_with fail
    go_ret
    exact ⟨rfl, b1⟩
  · go_enter Tryd.func5, Tryd.ntmps5
    go_wp2_with fail
    refine (HA.out _).mono ?_
    rintro e v1 ⟨rfl, b1⟩
    go_wp2_with fail
    refine (long_any a0 _).mono ?_
    rintro e u1 ⟨rfl, rfl⟩
    go_wp2_with fail
    refine (collapse_any a0 _ (by omega)).mono ?_
    rintro e v2 ⟨rfl, b2⟩
    go_wp2_with fail
    refine (refCollapse_any a0 _ (by omega)).mono ?_
    rintro e v3 ⟨rfl, b3⟩
    go_wp2_with fail
    refine (collapse_any (collapseS a0) _ (by omega)).mono ?_
    rintro e v4 ⟨rfl, b4⟩
    rw [E1.out]
    go_wp2_with fail
    refine (strip_any (collapseS a0) _ (by omega)).mono ?_
    rintro e v5 ⟨rfl, b5⟩
    rw [E2.out]
    go_wp2_with fail
    refine (strip_any a0 _ (by omega)).mono ?_
    rintro e v6 ⟨rfl, b6⟩
    go_wp2_with fail
    refine (collapse_any (stripS a0) _ (by omega)).mono ?_
    rintro e v7 ⟨rfl, b7⟩
    rw [E3.out]
    go_wp2_with fail
    go_ret
    exact ⟨rfl, (chain b1 (chain b2 (chain b3 (chain b4 (chain b5 (chain b6 b7))))))⟩

theorem own : ownKnob Tryd.prog.godebug = none := by kernel_rfl

set_option maxRecDepth 100000 in
theorem lifted (os : Os) (started : os.Started) (H : Type) (enc : TypeId × Value → H) :
    ReturnsInHanded {} Tryd.checked os 5 .any (fun w args => (Rows.textCollapseSpec.pre enc Tryd.prog Tryd.f5 [] false w args ∧ laidMetH Tryd.prog Rows.textCollapseRow.laid w) ∧ sizedMet enc Tryd.prog Tryd.f5 (OpenSpec.ofChange Rows.textCollapseSpec) false w args)
      (Rows.textCollapseSpec.post enc Tryd.prog Tryd.f5 false true false false) := by
  refine returnsInHanded_of_change_and (C := Tryd.checked) (X := fun w _ => laidMetH Tryd.prog Rows.textCollapseRow.laid w) (fun _ _ _ hh h => h.of_heap hh) own started (by kernel_rfl) Tryd.func5
    (ChangeSpec.witness_shaped (enc := enc) (C := Tryd.checked) (os := os) (X := fun w _ => laidMetH Tryd.prog Rows.textCollapseRow.laid w) false (World.laidAll Tryd.prog os Rows.textCollapseRow.laid) #[.string ByteArray.empty] 8 (World.laidAll_os _ _ _)
      (World.shaped_of_ZipB (by kernel_rfl) (by kernel_rfl)) (by kernel_rfl) (by kernel_rfl) (by kernel_rfl)
      (by rw [MakeChecks.laidMetH_plain _ _ _ (by kernel_rfl)]; exact laidMet_laidAll _ (by kernel_rfl) (by kernel_rfl))) ?_
  intro W base args ds gs before hval0 hW _ _ hL _
  have hval : ∀ (j : Nat) t v, Tryd.f5.params[j]? = some t → args[j]? = some v → Value.okWide Tryd.prog W .any base t v := hval0
  have hW' := hW
  obtain ⟨p, q, hA0, hV, rfl, _, _⟩ := hW
  have hA : DataW.TrodAll enc Tryd.prog W 0 (fun _ => true) true Tryd.f5.params.toList args.toList ds p := hA0
  rw [Tryd.params5] at hA hval
  obtain ⟨v0, vs0, d0, ds0, p0, q0, hargs, rfl, rfl, h0, r0⟩ := trodAll_cons hA
  obtain ⟨rfl, rfl, rfl⟩ := trodAll_nil r0
  obtain rfl : args = #[v0] := by cases args; simp_all
  obtain ⟨rfl, rfl⟩ := trodVars_none hV
  obtain ⟨a0, rfl, rfl, rfl, w0⟩ := open_string Tryd.underlying9 (hval 0 9 v0 rfl rfl) h0
  clear hA0 hval0
  refine (walk a0 w0 W).mono fun e W' ⟨he, bel⟩ => ?_
  subst he
  exact ⟨_, rfl, _, _, _, [], _, [], hW', trodAll_mk1 (shut_bool Tryd.underlying4 _), (trodAll_cons_mk (shut_string Tryd.underlying9 w0) trodAll_mk0), rfl, bel.frame _, fun h => by cases h⟩

theorem over : Rows.textCollapseRow.holds Tryd.pinned (OpenSpec.ofChange Rows.textCollapseSpec) :=
  OpenClaim.holds_of_wide 5 Tryd.f5 rfl rfl rfl rfl rfl rfl rfl ⟨rfl, rfl, rfl, rfl, rfl⟩ rfl rfl rfl rfl rfl (by kernel_rfl) Tryd.func5 (by kernel_rfl)
    (of_decide_eq_true (by kernel_rfl)) (by unfold Func.isWrapper; first | (rw [if_pos (by decide +kernel)]; kernel_rfl) | (rw [if_neg (by decide +kernel)]; exact ⟨rfl, rfl⟩))
    (fun os started H enc _ => lifted os started H enc)

theorem card : Rows.TextCollapseCardSaid :=
  Claim7.holds_tied_plain_at .later [] [.data, .pinned] true (true, "05dd7b6834db600077eb060517c355d11edac86e9094a2160b4f6b023aed6caf") false over (fun _ h => by cases h) (by kernel_rfl) (fun _ h => by cases h) textCollapse_row_tie rfl ⟨rfl, rfl⟩ (by kernel_rfl) rfl
    (fun f fn hf hfn => by
      obtain rfl : f = 5 := Option.some.inj ((show Tryd.prog.funcNamed Rows.textCollapseRow.func = some 5 by kernel_rfl).symm.trans hf) |>.symm
      obtain rfl : fn = Tryd.f5 := (Option.some.inj (Tryd.func5.symm.trans hfn)).symm
      exact ⟨by kernel_rfl, fun j t ht => by
        rw [Tryd.params5] at ht
        have hm : t ∈ [9] := by simpa using Array.mem_of_getElem? ht
        have hall : ([9].all fun u => !Tryd.prog.wantsStandIn u) = true := by kernel_rfl
        exact (show Tryd.prog.wantsStandIn t = false by simpa using List.all_eq_true.1 hall t hm)⟩)
    (by kernel_rfl)
end textCollapse

theorem textCollapse_holds : Rows.TextCollapseCardSaid := textCollapse.card
#print axioms textCollapse_holds
end Go.Proofs.YtgfbcooeilodmaaDoor
