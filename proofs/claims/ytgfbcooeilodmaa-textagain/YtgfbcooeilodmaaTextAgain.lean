/- TextAgain: for every text the call returns true, and the text reads afterwards as it read before: what was done to ends of lines once changes nothing when it is done again, and each way may come ahead of the other. No condition. -/
import Derived.Test.YtgfbcooeilodmaaEndsWalks
namespace Go.Proofs.Ytgfbcooeilodmaa
open Go.ChangeShapes Go.WideShapes Go.ChangeAt Go.RowKit
open Go.ChangeMaps (open_string shut_string)

namespace textAgain
theorem first_A : pairsS ⟨#[10]⟩ = ⟨#[13, 10]⟩ := by decide +kernel

set_option maxHeartbeats 400000 in
theorem walk (a0 : ByteArray) (_w0 : a0.size ≤ maxLen) (w : World) :
    Calls Try.prog 5 #[.string a0] w fun e w' => e = .returned (.bool true) ∧ Below w.heap.size w w' := by
  have hA := fun w => pairs_any ⟨#[10]⟩ w (by decide)
  rw [first_A] at hA
  have HA := hide hA
  clear hA
  have l1 := linesS_size a0
  have l2 := pairsS_size a0
  have E1 : Hid (linesS (linesS a0) = linesS a0) := ends_lines _ _
  have E2 : Hid (pairsS (pairsS a0) = pairsS a0) := ends_pairs _ _
  have E3 : Hid (linesS (pairsS a0) = linesS a0) := ends_pairs _ _
  have E4 : Hid (pairsS (linesS a0) = pairsS a0) := ends_lines _ _
  have E5 : Hid (noBreaksS (linesS a0) = noBreaksS a0) := ends_lines _ _
  by_cases ha : (65536 : Int) < (a0.size : Int)
  · go_enter Try.func5, Try.ntmps5
    go_wp2_with fail
    refine (HA.out _).mono ?_
    rintro e v1 ⟨rfl, b1⟩
    go_wp2_with fail
    refine (long_any a0 _).mono ?_
    rintro e u1 ⟨rfl, rfl⟩
    go_wp2_with fail
    go_ret
    exact ⟨rfl, b1⟩
  · go_enter Try.func5, Try.ntmps5
    go_wp2_with fail
    refine (HA.out _).mono ?_
    rintro e v1 ⟨rfl, b1⟩
    go_wp2_with fail
    refine (long_any a0 _).mono ?_
    rintro e u1 ⟨rfl, rfl⟩
    go_wp2_with fail
    refine (lines_any a0 _ (by omega)).mono ?_
    rintro e v2 ⟨rfl, b2⟩
    go_wp2_with fail
    refine (pairs_any a0 _ (by omega)).mono ?_
    rintro e v3 ⟨rfl, b3⟩
    go_wp2_with fail
    refine (lines_any (linesS a0) _ (by omega)).mono ?_
    rintro e v4 ⟨rfl, b4⟩
    rw [E1.out]
    go_wp2_with fail
    refine (pairs_any (pairsS a0) _ (by omega)).mono ?_
    rintro e v5 ⟨rfl, b5⟩
    rw [E2.out]
    go_wp2_with fail
    refine (lines_any (pairsS a0) _ (by omega)).mono ?_
    rintro e v6 ⟨rfl, b6⟩
    rw [E3.out]
    go_wp2_with fail
    refine (pairs_any (linesS a0) _ (by omega)).mono ?_
    rintro e v7 ⟨rfl, b7⟩
    rw [E4.out]
    go_wp2_with fail
    refine (noBreaks_any (linesS a0) _ (by omega)).mono ?_
    rintro e v8 ⟨rfl, b8⟩
    rw [E5.out]
    go_wp2_with fail
    refine (noBreaks_any a0 _ (by omega)).mono ?_
    rintro e v9 ⟨rfl, b9⟩
    go_wp2_with fail
    go_ret
    exact ⟨rfl, (chain b1 (chain b2 (chain b3 (chain b4 (chain b5 (chain b6 (chain b7 (chain b8 b9))))))))⟩

theorem own : ownKnob Try.prog.godebug = none := by kernel_rfl

set_option maxRecDepth 100000 in
theorem lifted (os : Os) (started : os.Started) (H : Type) (enc : TypeId × Value → H) :
    ReturnsInHanded {} Try.checked os 5 .any (Rows.textAgainSpec.pre6 enc Try.prog Try.f5 Rows.textAgainRow.domain false) (Rows.textAgainSpec.post enc Try.prog Try.f5 false true false false) := by
  refine returnsInHanded_of_change (C := Try.checked) own started (by kernel_rfl) Try.func5
    (ChangeSpec.witness6 (enc := enc) (C := Try.checked) false ⟨#[], #[.string ByteArray.empty], []⟩ 8 (by kernel_rfl) (by kernel_rfl) (by kernel_rfl) (by kernel_rfl)) ?_
  intro W base args ds gs before hval0 hW hcnd _
  have hval : ∀ (j : Nat) t v, Try.f5.params[j]? = some t → args[j]? = some v → Value.okWide Try.prog W .any base t v := hval0
  have hW' := hW
  obtain ⟨p, q, hA0, hV, rfl, _, _⟩ := hW
  have hA : DataW.TrodAll enc Try.prog W 0 (fun _ => true) true Try.f5.params.toList args.toList ds p := hA0
  rw [Try.params5] at hA hval
  obtain ⟨v0, vs0, d0, ds0, p0, q0, hargs, rfl, rfl, h0, r0⟩ := trodAll_cons hA
  obtain ⟨rfl, rfl, rfl⟩ := trodAll_nil r0
  obtain rfl : args = #[v0] := by cases args; simp_all
  obtain ⟨rfl, rfl⟩ := trodVars_none hV
  obtain ⟨a0, rfl, rfl, rfl, w0⟩ := open_string Try.underlying9 (hval 0 9 v0 rfl rfl) h0
  clear hA0 hval0
  refine (walk a0 w0 W).mono fun e W' ⟨he, bel⟩ => ?_
  subst he
  exact ⟨_, rfl, _, _, _, [], _, [], hW', trodAll_mk1 (shut_bool Try.underlying4 _), (trodAll_cons_mk (shut_string Try.underlying9 w0) trodAll_mk0), rfl, bel.frame _, fun h => by cases h⟩

theorem over : Rows.textAgainRow.holds Try.pinned (OpenSpec.ofChange Rows.textAgainSpec) :=
  OpenClaim.holds_of_wide 5 Try.f5 rfl rfl rfl rfl rfl rfl rfl ⟨rfl, rfl, rfl, rfl, rfl⟩ rfl rfl rfl rfl rfl (by kernel_rfl) Try.func5 (by kernel_rfl)
    (of_decide_eq_true (by kernel_rfl)) (by unfold Func.isWrapper; first | (rw [if_pos (by decide +kernel)]; kernel_rfl) | (rw [if_neg (by decide +kernel)]; exact ⟨rfl, rfl⟩))
    (fun os started H enc _ => lifted os started H enc)
end textAgain

theorem textAgain_holds : Rows.TextAgainSaid := textAgain.over
#print axioms textAgain_holds
end Go.Proofs.Ytgfbcooeilodmaa
