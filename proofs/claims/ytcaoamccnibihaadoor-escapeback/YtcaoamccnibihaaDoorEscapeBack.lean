/- EscapeBack: for every text and every set the call returns true, and both read afterwards as they read before: what the sets Part and Form escape is read to what it was, and so is, by any set, a text without the sign of escapes. The two tables that the road names read as the program's text lays them (the card ties them). -/
import Derived.Test.YtcaoamccnibihaaDoorEncWalks
import Derived.Test.YtcaoamccnibihaaDoorDecWalks
import Derived.Test.YtcaoamccnibihaaDoorLong2
import Derived.Test.YtcaoamccnibihaaDoorCards
import Derived.Test.YtcaoamccnibihaaDoorTie
import Derived.LaidMore
import Derived.Lay
import Derived.SevenTiedAt
import Derived.Stop.Joined
namespace Go.Proofs.YtcaoamccnibihaaDoor
open Go.ChangeShapes Go.WideShapes Go.ChangeAt Go.RowKit
open Go.ChangeMaps (open_string shut_string)

namespace escapeBack
theorem tabs_of {W : World} (hL : laidMet Tryd.prog Rows.escapeBackRow.laid W) : Signs W ∧ Digs W := ⟨signs_of (Lib.laidMet.reads hL (.head _)), digs_of (Lib.laidMet.reads hL (.tail _ (.head _)))⟩
theorem first_A : decS ⟨#[37, 52, 49]⟩ = ⟨#[65]⟩ := by decide +kernel
theorem back_of {set : Int} {s : ByteArray} (h : hasB s.data.toList 37 = true → escB set 37 = true) : decS (encS set s) = s := by
  unfold decS encS
  rw [txt_data, dec_enc _ (fun hm => h (List.contains_iff_mem.2 hm)), txt_toList]
theorem enc_size (set : Int) (s : ByteArray) : (encS set s).size ≤ 3 * s.size := by
  have := encL_len set s.data.toList
  unfold encS; rw [txt_size]; simpa using this

set_option maxHeartbeats 1000000 in
theorem walk (a0 : ByteArray) (a1 : Int) (_w0 : a0.size ≤ maxLen) (_w1 : (Lit.int .i64 a1).wf = true) (w : World) (hT : Signs w ∧ Digs w) :
    Calls Tryd.prog 6 #[.string a0, .int .i64 a1] w fun e w' => e = .returned (.bool true) ∧ Below w.heap.size w w' := by
  have hA := fun w => decode_any ⟨#[37, 52, 49]⟩ w (by decide)
  rw [first_A] at hA
  have HA := hide hA
  have HS := hide hT.1
  have HD := hide hT.2
  clear hA hT
  by_cases ha : (16384 : Int) < (a0.size : Int)
  · go_enter Tryd.func6, Tryd.ntmps6
    go_wp2_with fail
    refine (HA.out _ HD.out).mono ?_
    rintro e v1 ⟨rfl, b1⟩
    go_wp2_with fail
    refine (long_any a0 _).mono ?_
    rintro e u1 ⟨rfl, rfl⟩
    go_wp2_with fail
    go_ret
    exact ⟨rfl, b1⟩
  · have hz := enc_size a1 a0
    by_cases hset : 0 ≤ a1 ∧ a1 ≤ 7
    · by_cases h6 : a1 < 6
      · have hI := fun w => refIn_any 37 a0 w (by unfold maxLen; omega)
        cases g : hasB a0.data.toList 37 with
        | true =>
          rw [g] at hI
          have HI := hide hI
          clear hI g
          go_enter Tryd.func6, Tryd.ntmps6
          go_wp2_with fail
          refine (HA.out _ HD.out).mono ?_
          rintro e v1 ⟨rfl, b1⟩
          go_wp2_with fail
          refine (long_any a0 _).mono ?_
          rintro e u1 ⟨rfl, rfl⟩
          go_wp2_with fail
          refine (encode_any a0 a1 _ hset (by omega) (HS.out.below b1) (HD.out.below b1)).mono ?_
          rintro e v2 ⟨rfl, b2⟩
          go_wp2_with fail
          refine (HI.out _).mono ?_
          rintro e u1 ⟨rfl, rfl⟩
          go_wp2_with fail
          go_ret
          exact ⟨rfl, (chain b1 b2)⟩
        | false =>
          rw [g] at hI
          have HI := hide hI
          have HB := hide (back_of (set := a1) (s := a0) (fun h => by rw [g] at h; cases h))
          clear hI g
          go_enter Tryd.func6, Tryd.ntmps6
          go_wp2_with fail
          refine (HA.out _ HD.out).mono ?_
          rintro e v1 ⟨rfl, b1⟩
          go_wp2_with fail
          refine (long_any a0 _).mono ?_
          rintro e u1 ⟨rfl, rfl⟩
          go_wp2_with fail
          refine (encode_any a0 a1 _ hset (by omega) (HS.out.below b1) (HD.out.below b1)).mono ?_
          rintro e v2 ⟨rfl, b2⟩
          go_wp2_with fail
          refine (HI.out _).mono ?_
          rintro e u1 ⟨rfl, rfl⟩
          go_wp2_with fail
          refine (decode_any (encS a1 a0) _ (by omega) (HD.out.below (chain b1 b2))).mono ?_
          rintro e v3 ⟨rfl, b3⟩
          rw [HB.out]
          go_wp2_with fail
          go_ret
          exact ⟨rfl, (chain b1 (chain b2 b3))⟩
      · have h6' : 6 ≤ a1 := by omega
        have HB := hide (back_of (set := a1) (s := a0) (fun _ => by
          rcases (show a1 = 6 ∨ a1 = 7 by omega) with rfl | rfl
          · exact escB_part
          · exact escB_form37))
        clear h6
        go_enter Tryd.func6, Tryd.ntmps6
        go_wp2_with fail
        refine (HA.out _ HD.out).mono ?_
        rintro e v1 ⟨rfl, b1⟩
        go_wp2_with fail
        refine (long_any a0 _).mono ?_
        rintro e u1 ⟨rfl, rfl⟩
        go_wp2_with fail
        refine (encode_any a0 a1 _ hset (by omega) (HS.out.below b1) (HD.out.below b1)).mono ?_
        rintro e v2 ⟨rfl, b2⟩
        go_wp2_with fail
        refine (decode_any (encS a1 a0) _ (by omega) (HD.out.below (chain b1 b2))).mono ?_
        rintro e v3 ⟨rfl, b3⟩
        rw [HB.out]
        go_wp2_with fail
        go_ret
        exact ⟨rfl, (chain b1 (chain b2 b3))⟩
    · have hX := fun w => encode_none a0 a1 w hset
      have HX := hide hX
      clear hX hset
      go_enter Tryd.func6, Tryd.ntmps6
      go_wp2_with fail
      refine (HA.out _ HD.out).mono ?_
      rintro e v1 ⟨rfl, b1⟩
      go_wp2_with fail
      refine (long_any a0 _).mono ?_
      rintro e u1 ⟨rfl, rfl⟩
      go_wp2_with fail
      refine (HX.out _).mono ?_
      rintro e u1 ⟨rfl, rfl⟩
      go_wp2_with fail
      go_ret
      exact ⟨rfl, b1⟩

theorem own : ownKnob Tryd.prog.godebug = none := by kernel_rfl

set_option maxRecDepth 100000 in
theorem lifted (os : Os) (started : os.Started) (H : Type) (enc : TypeId × Value → H) :
    ReturnsInHanded {} Tryd.checked os 6 .any (fun w args => (Rows.escapeBackSpec.pre enc Tryd.prog Tryd.f6 [] false w args ∧ laidMetH Tryd.prog Rows.escapeBackRow.laid w) ∧ sizedMet enc Tryd.prog Tryd.f6 (OpenSpec.ofChange Rows.escapeBackSpec) false w args)
      (Rows.escapeBackSpec.post enc Tryd.prog Tryd.f6 false true false false) := by
  refine returnsInHanded_of_change_and (C := Tryd.checked) (X := fun w _ => laidMetH Tryd.prog Rows.escapeBackRow.laid w) (fun _ _ _ hh h => h.of_heap hh) own started (by kernel_rfl) Tryd.func6
    (ChangeSpec.witness_shaped (enc := enc) (C := Tryd.checked) (os := os) (X := fun w _ => laidMetH Tryd.prog Rows.escapeBackRow.laid w) false (World.laidAll Tryd.prog os Rows.escapeBackRow.laid) #[.string ByteArray.empty, .int .i64 0] 8 (World.laidAll_os _ _ _)
      (World.shaped_of_ZipB (by kernel_rfl) (by kernel_rfl)) (by kernel_rfl) (by kernel_rfl) (by kernel_rfl)
      (by rw [MakeChecks.laidMetH_plain _ _ _ (by kernel_rfl)]; exact laidMet_laidAll _ (by kernel_rfl) (by kernel_rfl))) ?_
  intro W base args ds gs before hval0 hW _ _ hL _
  have hval : ∀ (j : Nat) t v, Tryd.f6.params[j]? = some t → args[j]? = some v → Value.okWide Tryd.prog W .any base t v := hval0
  have hW' := hW
  obtain ⟨p, q, hA0, hV, rfl, _, _⟩ := hW
  have hA : DataW.TrodAll enc Tryd.prog W 0 (fun _ => true) true Tryd.f6.params.toList args.toList ds p := hA0
  rw [Tryd.params6] at hA hval
  obtain ⟨v0, vs0, d0, ds0, p0, q0, hargs, rfl, rfl, h0, r0⟩ := trodAll_cons hA
  obtain ⟨v1, vs1, d1, ds1, p1, q1, rfl, rfl, rfl, h1, r1⟩ := trodAll_cons r0
  obtain ⟨rfl, rfl, rfl⟩ := trodAll_nil r1
  obtain rfl : args = #[v0, v1] := by cases args; simp_all
  obtain ⟨rfl, rfl⟩ := trodVars_none hV
  obtain ⟨a0, rfl, rfl, rfl, w0⟩ := open_string Tryd.underlying9 (hval 0 9 v0 rfl rfl) h0
  obtain ⟨a1, rfl, rfl, rfl, w1⟩ := open_int Tryd.underlying3 (hval 1 3 v1 rfl rfl) h1
  clear hA0 hval0
  rw [MakeChecks.laidMetH_plain _ _ _ (by kernel_rfl)] at hL
  refine (walk a0 a1 w0 w1 W (tabs_of hL)).mono fun e W' ⟨he, bel⟩ => ?_
  subst he
  exact ⟨_, rfl, _, _, _, [], _, [], hW', trodAll_mk1 (shut_bool Tryd.underlying4 _), (trodAll_cons_mk (shut_string Tryd.underlying9 w0) (trodAll_cons_mk (shut_int Tryd.underlying3 w1) trodAll_mk0)), rfl, bel.frame _, fun h => by cases h⟩

theorem over : Rows.escapeBackRow.holds Tryd.pinned (OpenSpec.ofChange Rows.escapeBackSpec) :=
  OpenClaim.holds_of_wide 6 Tryd.f6 rfl rfl rfl rfl rfl rfl rfl ⟨rfl, rfl, rfl, rfl, rfl⟩ rfl rfl rfl rfl rfl (by kernel_rfl) Tryd.func6 (by kernel_rfl)
    (of_decide_eq_true (by kernel_rfl)) (by unfold Func.isWrapper; first | (rw [if_pos (by decide +kernel)]; kernel_rfl) | (rw [if_neg (by decide +kernel)]; exact ⟨rfl, rfl⟩))
    (fun os started H enc _ => lifted os started H enc)

theorem card : Rows.EscapeBackCardSaid :=
  Claim7.holds_tied_plain_at .later [] [.data, .data] true (true, "62e166001a4dbf42ea612a4b86c1c23d632900e804c16e55848f818be9d2646a") false over (fun _ h => by cases h) (by kernel_rfl) (fun _ h => by cases h) escapeBack_row_tie rfl ⟨rfl, rfl⟩ (by kernel_rfl) rfl
    (fun f fn hf hfn => by
      obtain rfl : f = 6 := Option.some.inj ((show Tryd.prog.funcNamed Rows.escapeBackRow.func = some 6 by kernel_rfl).symm.trans hf) |>.symm
      obtain rfl : fn = Tryd.f6 := (Option.some.inj (Tryd.func6.symm.trans hfn)).symm
      exact ⟨by kernel_rfl, fun j t ht => by
        rw [Tryd.params6] at ht
        have hm : t ∈ [9, 3] := by simpa using Array.mem_of_getElem? ht
        have hall : ([9, 3].all fun u => !Tryd.prog.wantsStandIn u) = true := by kernel_rfl
        exact (show Tryd.prog.wantsStandIn t = false by simpa using List.all_eq_true.1 hall t hm)⟩)
    (by kernel_rfl)
end escapeBack

theorem escapeBack_holds : Rows.EscapeBackCardSaid := escapeBack.card
#print axioms escapeBack_holds
end Go.Proofs.YtcaoamccnibihaaDoor
