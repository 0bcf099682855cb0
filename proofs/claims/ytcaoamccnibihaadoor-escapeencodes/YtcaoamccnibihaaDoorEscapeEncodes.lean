/- EscapeEncodes: for every text and every set the call returns true, and both read afterwards as they read before: the program's Encode answers as the document's, or both refuse. The two tables that the road names read as the program's text lays them (the card ties them). -/
import Derived.Test.YtcaoamccnibihaaDoorEncWalks
import Derived.Test.YtcaoamccnibihaaDoorRefEncWalks
import Derived.Test.YtcaoamccnibihaaDoorLong2
import Derived.Test.YtcaoamccnibihaaDoorCards
import Derived.Test.YtcaoamccnibihaaDoorTie
import Derived.LaidMore
import Derived.Lay
import Derived.SevenTiedAt
import Derived.Stop.Joined
namespace Go.Proofs.YtcaoamccnibihaaDoor
open Go.ChangeShapes Go.WideShapes Go.ChangeAt Go.RowKit
open Go.ChangeMaps (open_string shut_string)

namespace escapeEncodes
theorem signs_at {W : World} (hL : laidMet Tryd.prog Rows.escapeEncodesRow.laid W) : Signs W := signs_of (Lib.laidMet.reads hL (.head _))
theorem digs_at {W : World} (hL : laidMet Tryd.prog Rows.escapeEncodesRow.laid W) : Digs W := digs_of (Lib.laidMet.reads hL (.tail _ (.head _)))
theorem tabs_of {W : World} (hL : laidMet Tryd.prog Rows.escapeEncodesRow.laid W) : Signs W ∧ Digs W := ⟨signs_at hL, digs_at hL⟩
theorem first_A : encS 2 ⟨#[97, 32, 98]⟩ = ⟨#[97, 37, 50, 48, 98]⟩ := by decide +kernel

set_option maxHeartbeats 1000000 in
theorem walk (a0 : ByteArray) (a1 : Int) (_w0 : a0.size ≤ maxLen) (_w1 : (Lit.int .i64 a1).wf = true) (w : World) (hT : Signs w ∧ Digs w) :
    Calls Tryd.prog 4 #[.string a0, .int .i64 a1] w fun e w' => e = .returned (.bool true) ∧ Below w.heap.size w w' := by
  have hA := fun w => encode_any ⟨#[97, 32, 98]⟩ 2 w (by decide) (by decide)
  rw [first_A] at hA
  have HA := hide hA
  have HS := hide hT.1
  have HD := hide hT.2
  clear hA hT
  by_cases ha : (16384 : Int) < (a0.size : Int)
  · go_enter Tryd.func4, Tryd.ntmps4
    go_wp2_with fail
    refine (HA.out _ HS.out HD.out).mono ?_
    rintro e v1 ⟨rfl, b1⟩
    go_wp2_with fail
    refine (long_any a0 _).mono ?_
    rintro e u1 ⟨rfl, rfl⟩
    go_wp2_with fail
    go_ret
    exact ⟨rfl, b1⟩
  · by_cases hset : 0 ≤ a1 ∧ a1 ≤ 7
    · go_enter Tryd.func4, Tryd.ntmps4
      go_wp2_with fail
      refine (HA.out _ HS.out HD.out).mono ?_
      rintro e v1 ⟨rfl, b1⟩
      go_wp2_with fail
      refine (long_any a0 _).mono ?_
      rintro e u1 ⟨rfl, rfl⟩
      go_wp2_with fail
      refine (encode_any a0 a1 _ hset (by omega) (HS.out.below b1) (HD.out.below b1)).mono ?_
      rintro e v2 ⟨rfl, b2⟩
      go_wp2_with fail
      refine (refEncode_any a0 a1 _ hset (by omega)).mono ?_
      rintro e v3 ⟨rfl, b3⟩
      go_wp2_with fail
      go_ret
      exact ⟨rfl, (chain b1 (chain b2 b3))⟩
    · have hX := fun w => encode_none a0 a1 w hset
      have hY := fun w => refEncode_none a0 a1 w hset
      have HX := hide hX
      have HY := hide hY
      clear hX hY hset
      go_enter Tryd.func4, Tryd.ntmps4
      go_wp2_with fail
      refine (HA.out _ HS.out HD.out).mono ?_
      rintro e v1 ⟨rfl, b1⟩
      go_wp2_with fail
      refine (long_any a0 _).mono ?_
      rintro e u1 ⟨rfl, rfl⟩
      go_wp2_with fail
      refine (HX.out _).mono ?_
      rintro e u1 ⟨rfl, rfl⟩
      go_wp2_with fail
      refine (HY.out _).mono ?_
      rintro e u1 ⟨rfl, rfl⟩
      go_wp2_with fail
      go_ret
      exact ⟨rfl, b1⟩

theorem own : ownKnob Tryd.prog.godebug = none := by kernel_rfl

set_option maxRecDepth 100000 in
theorem lifted (os : Os) (started : os.Started) (H : Type) (enc : TypeId × Value → H) :
    ReturnsInHanded {} Tryd.checked os 4 .any (fun w args => (Rows.escapeEncodesSpec.pre enc Tryd.prog Tryd.f4 [] false w args ∧ laidMetH Tryd.prog Rows.escapeEncodesRow.laid w) ∧ sizedMet enc Tryd.prog Tryd.f4 (OpenSpec.ofChange Rows.escapeEncodesSpec) false w args)
      (Rows.escapeEncodesSpec.post enc Tryd.prog Tryd.f4 false true false false) := by
  refine returnsInHanded_of_change_and (C := Tryd.checked) (X := fun w _ => laidMetH Tryd.prog Rows.escapeEncodesRow.laid w) (fun _ _ _ hh h => h.of_heap hh) own started (by kernel_rfl) Tryd.func4
    (ChangeSpec.witness_shaped (enc := enc) (C := Tryd.checked) (os := os) (X := fun w _ => laidMetH Tryd.prog Rows.escapeEncodesRow.laid w) false (World.laidAll Tryd.prog os Rows.escapeEncodesRow.laid) #[.string ByteArray.empty, .int .i64 0] 8 (World.laidAll_os _ _ _)
      (World.shaped_of_ZipB (by kernel_rfl) (by kernel_rfl)) (by kernel_rfl) (by kernel_rfl) (by kernel_rfl)
      (by rw [MakeChecks.laidMetH_plain _ _ _ (by kernel_rfl)]; exact laidMet_laidAll _ (by kernel_rfl) (by kernel_rfl))) ?_
  intro W base args ds gs before hval0 hW _ _ hL _
  have hval : ∀ (j : Nat) t v, Tryd.f4.params[j]? = some t → args[j]? = some v → Value.okWide Tryd.prog W .any base t v := hval0
  have hW' := hW
  obtain ⟨p, q, hA0, hV, rfl, _, _⟩ := hW
  have hA : DataW.TrodAll enc Tryd.prog W 0 (fun _ => true) true Tryd.f4.params.toList args.toList ds p := hA0
  rw [Tryd.params4] at hA hval
  obtain ⟨v0, vs0, d0, ds0, p0, q0, hargs, rfl, rfl, h0, r0⟩ := trodAll_cons hA
  obtain ⟨v1, vs1, d1, ds1, p1, q1, rfl, rfl, rfl, h1, r1⟩ := trodAll_cons r0
  obtain ⟨rfl, rfl, rfl⟩ := trodAll_nil r1
  obtain rfl : args = #[v0, v1] := by cases args; simp_all
  obtain ⟨rfl, rfl⟩ := trodVars_none hV
  obtain ⟨a0, rfl, rfl, rfl, w0⟩ := open_string Tryd.underlying9 (hval 0 9 v0 rfl rfl) h0
  obtain ⟨a1, rfl, rfl, rfl, w1⟩ := open_int Tryd.underlying3 (hval 1 3 v1 rfl rfl) h1
  clear hA0 hval0
  rw [MakeChecks.laidMetH_plain _ _ _ (by kernel_rfl)] at hL
  refine (walk a0 a1 w0 w1 W (tabs_of hL)).mono fun e W' ⟨he, bel⟩ => ?_
  subst he
  exact ⟨_, rfl, _, _, _, [], _, [], hW', trodAll_mk1 (shut_bool Tryd.underlying4 _), (trodAll_cons_mk (shut_string Tryd.underlying9 w0) (trodAll_cons_mk (shut_int Tryd.underlying3 w1) trodAll_mk0)), rfl, bel.frame _, fun h => by cases h⟩

theorem over : Rows.escapeEncodesRow.holds Tryd.pinned (OpenSpec.ofChange Rows.escapeEncodesSpec) :=
  OpenClaim.holds_of_wide 4 Tryd.f4 rfl rfl rfl rfl rfl rfl rfl ⟨rfl, rfl, rfl, rfl, rfl⟩ rfl rfl rfl rfl rfl (by kernel_rfl) Tryd.func4 (by kernel_rfl)
    (of_decide_eq_true (by kernel_rfl)) (by unfold Func.isWrapper; first | (rw [if_pos (by decide +kernel)]; kernel_rfl) | (rw [if_neg (by decide +kernel)]; exact ⟨rfl, rfl⟩))
    (fun os started H enc _ => lifted os started H enc)

theorem card : Rows.EscapeEncodesCardSaid :=
  Claim7.holds_tied_plain_at .later [] [.data, .data] true (true, "62e166001a4dbf42ea612a4b86c1c23d632900e804c16e55848f818be9d2646a") false over (fun _ h => by cases h) (by kernel_rfl) (fun _ h => by cases h) escapeEncodes_row_tie rfl ⟨rfl, rfl⟩ (by kernel_rfl) rfl
    (fun f fn hf hfn => by
      obtain rfl : f = 4 := Option.some.inj ((show Tryd.prog.funcNamed Rows.escapeEncodesRow.func = some 4 by kernel_rfl).symm.trans hf) |>.symm
      obtain rfl : fn = Tryd.f4 := (Option.some.inj (Tryd.func4.symm.trans hfn)).symm
      exact ⟨by kernel_rfl, fun j t ht => by
        rw [Tryd.params4] at ht
        have hm : t ∈ [9, 3] := by simpa using Array.mem_of_getElem? ht
        have hall : ([9, 3].all fun u => !Tryd.prog.wantsStandIn u) = true := by kernel_rfl
        exact (show Tryd.prog.wantsStandIn t = false by simpa using List.all_eq_true.1 hall t hm)⟩)
    (by kernel_rfl)
end escapeEncodes

theorem escapeEncodes_holds : Rows.EscapeEncodesCardSaid := escapeEncodes.card
#print axioms escapeEncodes_holds
end Go.Proofs.YtcaoamccnibihaaDoor
