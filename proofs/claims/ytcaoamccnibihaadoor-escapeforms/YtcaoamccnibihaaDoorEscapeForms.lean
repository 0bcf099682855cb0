/- EscapeForms: for every text the call returns true, and the text reads afterwards as it read before: the program's Form and Unform answer as the document's, and there and back the text is what it was. The tables that the road names read as the program's text lays them (the card ties them). -/
import Derived.Test.YtcaoamccnibihaaDoorFormWalks
import Derived.Test.YtcaoamccnibihaaDoorRefFormWalks
import Derived.Test.YtcaoamccnibihaaDoorLong2
import Derived.Test.YtcaoamccnibihaaDoorShaped
import Derived.Test.YtcaoamccnibihaaDoorCards
import Derived.Test.YtcaoamccnibihaaDoorTie
import Derived.LaidMore
import Derived.Lay
import Derived.SevenTiedAt
import Derived.Stop.Joined
namespace Go.Proofs.YtcaoamccnibihaaDoor
open Go.ChangeShapes Go.WideShapes Go.ChangeAt Go.RowKit
open Go.ChangeMaps (open_string shut_string)

namespace escapeForms
theorem tabs_of {W : World} (hL : laidMet Tryd.prog Rows.escapeFormsRow.laid W) : Signs W ∧ Digs W := ⟨signs_of (Lib.laidMet.reads hL (.tail _ (.head _))), digs_of (Lib.laidMet.reads hL (.tail _ (.tail _ (.head _))))⟩
theorem first_A : formS ⟨#[97, 32, 98]⟩ = ⟨#[97, 43, 98]⟩ := by decide +kernel
theorem back (s : ByteArray) : unformS (formS s) = s := by
  unfold unformS formS; rw [txt_data, unform_form, txt_toList]
theorem form_size (s : ByteArray) : (formS s).size ≤ 3 * s.size := by
  have := formL_len s.data.toList
  unfold formS; rw [txt_size]; simpa using this

set_option maxHeartbeats 1000000 in
theorem walk (a0 : ByteArray) (_w0 : a0.size ≤ maxLen) (w : World) (hT : Signs w ∧ Digs w) (hM : SomeMax w) :
    Calls Tryd.prog 7 #[.string a0] w fun e w' => e = .returned (.bool true) ∧ Below w.heap.size w w' := by
  have hA := fun w => form_any ⟨#[97, 32, 98]⟩ w (by decide)
  rw [first_A] at hA
  have HA := hide hA
  have HS := hide hT.1
  have HD := hide hT.2
  have HM := hide hM
  have HB := hide (back a0)
  have hz := form_size a0
  clear hA hT hM
  by_cases ha : (16384 : Int) < (a0.size : Int)
  · go_enter Tryd.func7, Tryd.ntmps7
    go_wp2_with fail
    refine (HA.out _ HS.out HD.out HM.out).mono ?_
    rintro e v1 ⟨rfl, b1⟩
    go_wp2_with fail
    refine (long_any a0 _).mono ?_
    rintro e u1 ⟨rfl, rfl⟩
    go_wp2_with fail
    go_ret
    exact ⟨rfl, b1⟩
  · go_enter Tryd.func7, Tryd.ntmps7
    go_wp2_with fail
    refine (HA.out _ HS.out HD.out HM.out).mono ?_
    rintro e v1 ⟨rfl, b1⟩
    go_wp2_with fail
    refine (long_any a0 _).mono ?_
    rintro e u1 ⟨rfl, rfl⟩
    go_wp2_with fail
    refine (form_any a0 _ (by omega) (HS.out.below b1) (HD.out.below b1) (HM.out.below b1)).mono ?_
    rintro e v2 ⟨rfl, b2⟩
    go_wp2_with fail
    refine (refForm_any a0 _ (by omega)).mono ?_
    rintro e v3 ⟨rfl, b3⟩
    go_wp2_with fail
    refine (unform_any a0 _ (by omega) (HD.out.below (chain b1 (chain b2 b3))) (HM.out.below (chain b1 (chain b2 b3)))).mono ?_
    rintro e v4 ⟨rfl, b4⟩
    go_wp2_with fail
    refine (refUnform_any a0 _ (by omega)).mono ?_
    rintro e v5 ⟨rfl, b5⟩
    go_wp2_with fail
    refine (unform_any (formS a0) _ (by omega) (HD.out.below (chain b1 (chain b2 (chain b3 (chain b4 b5))))) (HM.out.below (chain b1 (chain b2 (chain b3 (chain b4 b5)))))).mono ?_
    rintro e v6 ⟨rfl, b6⟩
    rw [HB.out]
    go_wp2_with fail
    go_ret
    exact ⟨rfl, (chain b1 (chain b2 (chain b3 (chain b4 (chain b5 b6)))))⟩

theorem own : ownKnob Tryd.prog.godebug = none := by kernel_rfl

set_option maxRecDepth 100000 in
theorem lifted (os : Os) (started : os.Started) (H : Type) (enc : TypeId × Value → H) :
    ReturnsInHanded {} Tryd.checked os 7 .any (fun w args => (Rows.escapeFormsSpec.pre enc Tryd.prog Tryd.f7 [] false w args ∧ laidMetH Tryd.prog Rows.escapeFormsRow.laid w) ∧ sizedMet enc Tryd.prog Tryd.f7 (OpenSpec.ofChange Rows.escapeFormsSpec) false w args)
      (Rows.escapeFormsSpec.post enc Tryd.prog Tryd.f7 false true false false) := by
  refine handed_shaped (C := Tryd.checked) (X := fun w _ => laidMetH Tryd.prog Rows.escapeFormsRow.laid w) (fun _ _ _ hh h => h.of_heap hh) own started (by kernel_rfl) Tryd.func7
    (ChangeSpec.witness_shaped (enc := enc) (C := Tryd.checked) (os := os) (X := fun w _ => laidMetH Tryd.prog Rows.escapeFormsRow.laid w) false (World.laidAll Tryd.prog os Rows.escapeFormsRow.laid) #[.string ByteArray.empty] 8 (World.laidAll_os _ _ _)
      (World.shaped_of_ZipB (by kernel_rfl) (by kernel_rfl)) (by kernel_rfl) (by kernel_rfl) (by kernel_rfl)
      (by rw [MakeChecks.laidMetH_plain _ _ _ (by kernel_rfl)]; exact laidMet_laidAll _ (by kernel_rfl) (by kernel_rfl))) ?_
  intro W base args ds gs before hval0 hW hL hsh
  have hval : ∀ (j : Nat) t v, Tryd.f7.params[j]? = some t → args[j]? = some v → Value.okWide Tryd.prog W .any base t v := hval0
  have hW' := hW
  obtain ⟨p, q, hA0, hV, rfl, _, _⟩ := hW
  have hA : DataW.TrodAll enc Tryd.prog W 0 (fun _ => true) true Tryd.f7.params.toList args.toList ds p := hA0
  rw [Tryd.params7] at hA hval
  obtain ⟨v0, vs0, d0, ds0, p0, q0, hargs, rfl, rfl, h0, r0⟩ := trodAll_cons hA
  obtain ⟨rfl, rfl, rfl⟩ := trodAll_nil r0
  obtain rfl : args = #[v0] := by cases args; simp_all
  obtain ⟨rfl, rfl⟩ := trodVars_none hV
  obtain ⟨a0, rfl, rfl, rfl, w0⟩ := open_string Tryd.underlying9 (hval 0 9 v0 rfl rfl) h0
  clear hA0 hval0
  rw [MakeChecks.laidMetH_plain _ _ _ (by kernel_rfl)] at hL
  refine (walk a0 w0 W (tabs_of hL) (max_of hsh)).mono fun e W' ⟨he, bel⟩ => ?_
  subst he
  exact ⟨_, rfl, _, _, _, [], _, [], hW', trodAll_mk1 (shut_bool Tryd.underlying4 _), (trodAll_cons_mk (shut_string Tryd.underlying9 w0) trodAll_mk0), rfl, bel.frame _, fun h => by cases h⟩

theorem over : Rows.escapeFormsRow.holds Tryd.pinned (OpenSpec.ofChange Rows.escapeFormsSpec) :=
  OpenClaim.holds_of_wide 7 Tryd.f7 rfl rfl rfl rfl rfl rfl rfl ⟨rfl, rfl, rfl, rfl, rfl⟩ rfl rfl rfl rfl rfl (by kernel_rfl) Tryd.func7 (by kernel_rfl)
    (of_decide_eq_true (by kernel_rfl)) (by unfold Func.isWrapper; first | (rw [if_pos (by decide +kernel)]; kernel_rfl) | (rw [if_neg (by decide +kernel)]; exact ⟨rfl, rfl⟩))
    (fun os started H enc _ => lifted os started H enc)

theorem card : Rows.EscapeFormsCardSaid :=
  Claim7.holds_tied_plain_at .later [] [.data, .data, .data, .pinned] true (true, "62e166001a4dbf42ea612a4b86c1c23d632900e804c16e55848f818be9d2646a") false over (fun _ h => by cases h) (by kernel_rfl) (fun _ h => by cases h) escapeForms_row_tie rfl ⟨rfl, rfl⟩ (by kernel_rfl) rfl
    (fun f fn hf hfn => by
      obtain rfl : f = 7 := Option.some.inj ((show Tryd.prog.funcNamed Rows.escapeFormsRow.func = some 7 by kernel_rfl).symm.trans hf) |>.symm
      obtain rfl : fn = Tryd.f7 := (Option.some.inj (Tryd.func7.symm.trans hfn)).symm
      exact ⟨by kernel_rfl, fun j t ht => by
        rw [Tryd.params7] at ht
        have hm : t ∈ [9] := by simpa using Array.mem_of_getElem? ht
        have hall : ([9].all fun u => !Tryd.prog.wantsStandIn u) = true := by kernel_rfl
        exact (show Tryd.prog.wantsStandIn t = false by simpa using List.all_eq_true.1 hall t hm)⟩)
    (by kernel_rfl)
end escapeForms

theorem escapeForms_holds : Rows.EscapeFormsCardSaid := escapeForms.card
#print axioms escapeForms_holds
end Go.Proofs.YtcaoamccnibihaaDoor
