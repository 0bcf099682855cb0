/- EscapeJoins: for every two texts and every set the call returns true, and all three read afterwards as they read before: two texts that are joined are escaped as each by itself. The tables that the road names read as the program's text lays them (the card ties them). -/
import Derived.Test.YtcaoamccnibihaaDoorFormWalks
import Derived.Test.YtcaoamccnibihaaDoorLong2
import Derived.Test.YtcaoamccnibihaaDoorShaped
import Derived.Test.YtcaoamccnibihaaDoorCards
import Derived.Test.YtcaoamccnibihaaDoorTie
import Derived.LaidMore
import Derived.Lay
import Derived.SevenTiedAt
import Derived.Stop.Joined
namespace Go.Proofs.YtcaoamccnibihaaDoor
open Go.ChangeShapes Go.WideShapes Go.ChangeAt Go.RowKit
open Go.ChangeMaps (open_string shut_string)

namespace escapeJoins
theorem tabs_of {W : World} (hL : laidMet Tryd.prog Rows.escapeJoinsRow.laid W) : Signs W ∧ Digs W := ⟨signs_of (Lib.laidMet.reads hL (.tail _ (.head _))), digs_of (Lib.laidMet.reads hL (.tail _ (.tail _ (.head _))))⟩
theorem first_A : formS ⟨#[97, 32, 98]⟩ = ⟨#[97, 43, 98]⟩ := by decide +kernel
theorem form_size (s : ByteArray) : (formS s).size ≤ 3 * s.size := by
  have := formL_len s.data.toList
  unfold formS; rw [txt_size]; simpa using this
theorem txt_app (l k : List UInt8) : txt (l ++ k) = txt l ++ txt k := by
  apply ByteArray.ext
  apply Array.ext'
  simp [txt]
theorem data_app (a b : ByteArray) : (a ++ b).data.toList = a.data.toList ++ b.data.toList := by simp
theorem enc_join (set : Int) (a b : ByteArray) : encS set (a ++ b) = encS set a ++ encS set b := by
  unfold encS; rw [data_app, encL_append, txt_app]
theorem form_join (a b : ByteArray) : formS (a ++ b) = formS a ++ formS b := by
  unfold formS; rw [data_app, formL_append, txt_app]

set_option maxHeartbeats 1000000 in
theorem walk (a0 a1 : ByteArray) (a2 : Int) (_w0 : a0.size ≤ maxLen) (_w1 : a1.size ≤ maxLen) (_w2 : (Lit.int .i64 a2).wf = true) (w : World) (hT : Signs w ∧ Digs w) (hM : SomeMax w) :
    Calls Tryd.prog 8 #[.string a0, .string a1, .int .i64 a2] w fun e w' => e = .returned (.bool true) ∧ Below w.heap.size w w' := by
  have hA := fun w => form_any ⟨#[97, 32, 98]⟩ w (by decide)
  rw [first_A] at hA
  have HA := hide hA
  have HS := hide hT.1
  have HD := hide hT.2
  have HM := hide hM
  clear hA hT hM
  by_cases ha : (16384 : Int) < (a0.size : Int)
  · go_enter Tryd.func8, Tryd.ntmps8
    go_wp2_with fail
    refine (HA.out _ HS.out HD.out HM.out).mono ?_
    rintro e v1 ⟨rfl, b1⟩
    go_wp2_with fail
    refine (long_any a0 _).mono ?_
    rintro e u1 ⟨rfl, rfl⟩
    go_wp2_with fail
    go_ret
    exact ⟨rfl, b1⟩
  · by_cases hb : (16384 : Int) < (a1.size : Int)
    · go_enter Tryd.func8, Tryd.ntmps8
      go_wp2_with fail
      refine (HA.out _ HS.out HD.out HM.out).mono ?_
      rintro e v1 ⟨rfl, b1⟩
      go_wp2_with fail
      refine (long_any a0 _).mono ?_
      rintro e u1 ⟨rfl, rfl⟩
      go_wp2_with fail
      refine (long_any a1 _).mono ?_
      rintro e u1 ⟨rfl, rfl⟩
      go_wp2_with fail
      go_ret
      exact ⟨rfl, b1⟩
    · have hz : (a0 ++ a1).size = a0.size + a1.size := ByteArray.size_append
      have z1 : (encS a2 a0).size ≤ 49152 := by have := encS_size a2 a0; omega
      have z2 : (encS a2 a1).size ≤ 49152 := by have := encS_size a2 a1; omega
      have z3 : (formS a0).size ≤ 49152 := by have := form_size a0; omega
      have z4 : (formS a1).size ≤ 49152 := by have := form_size a1; omega
      have hF := fun w => form_any (a0 ++ a1) w (by omega)
      rw [form_join] at hF
      have HF := hide hF
      clear hF
      by_cases hset : 0 ≤ a2 ∧ a2 ≤ 7
      · have hE := fun w => encode_any (a0 ++ a1) a2 w hset (by omega)
        rw [enc_join] at hE
        have HE := hide hE
        clear hE
        go_enter Tryd.func8, Tryd.ntmps8
        go_wp2_with fail
        refine (HA.out _ HS.out HD.out HM.out).mono ?_
        rintro e v1 ⟨rfl, b1⟩
        go_wp2_with fail
        refine (long_any a0 _).mono ?_
        rintro e u1 ⟨rfl, rfl⟩
        go_wp2_with fail
        refine (long_any a1 _).mono ?_
        rintro e u1 ⟨rfl, rfl⟩
        go_wp2_with fail
        refine (encode_any a0 a2 _ hset (by omega) (HS.out.below b1) (HD.out.below b1)).mono ?_
        rintro e v2 ⟨rfl, b2⟩
        go_wp2_with fail
        refine (encode_any a1 a2 _ hset (by omega) (HS.out.below (chain b1 b2)) (HD.out.below (chain b1 b2))).mono ?_
        rintro e v3 ⟨rfl, b3⟩
        go_wp2_with fail
        refine (HE.out _ (HS.out.below (chain b1 (chain b2 b3))) (HD.out.below (chain b1 (chain b2 b3)))).mono ?_
        rintro e v4 ⟨rfl, b4⟩
        go_wp2_with fail
        refine (HF.out _ (HS.out.below (chain b1 (chain b2 (chain b3 b4)))) (HD.out.below (chain b1 (chain b2 (chain b3 b4)))) (HM.out.below (chain b1 (chain b2 (chain b3 b4))))).mono ?_
        rintro e v5 ⟨rfl, b5⟩
        go_wp2_with fail
        refine (form_any a0 _ (by omega) (HS.out.below (chain b1 (chain b2 (chain b3 (chain b4 b5))))) (HD.out.below (chain b1 (chain b2 (chain b3 (chain b4 b5))))) (HM.out.below (chain b1 (chain b2 (chain b3 (chain b4 b5)))))).mono ?_
        rintro e v6 ⟨rfl, b6⟩
        go_wp2_with fail
        refine (form_any a1 _ (by omega) (HS.out.below (chain b1 (chain b2 (chain b3 (chain b4 (chain b5 b6)))))) (HD.out.below (chain b1 (chain b2 (chain b3 (chain b4 (chain b5 b6)))))) (HM.out.below (chain b1 (chain b2 (chain b3 (chain b4 (chain b5 b6))))))).mono ?_
        rintro e v7 ⟨rfl, b7⟩
        go_wp2_with fail
        go_ret
        exact ⟨rfl, (chain b1 (chain b2 (chain b3 (chain b4 (chain b5 (chain b6 b7))))))⟩
      · have hX := fun s w => encode_none s a2 w hset
        have HX := hide hX
        have q0 : ((⟨#[]⟩ : ByteArray) ++ (⟨#[]⟩ : ByteArray)).toList = [] := by decide +kernel
        clear hX hset
        go_enter Tryd.func8, Tryd.ntmps8
        go_wp2_with fail
        refine (HA.out _ HS.out HD.out HM.out).mono ?_
        rintro e v1 ⟨rfl, b1⟩
        go_wp2_with fail
        refine (long_any a0 _).mono ?_
        rintro e u1 ⟨rfl, rfl⟩
        go_wp2_with fail
        refine (long_any a1 _).mono ?_
        rintro e u1 ⟨rfl, rfl⟩
        go_wp2_with fail
        refine (HX.out _ _).mono ?_
        rintro e u1 ⟨rfl, rfl⟩
        go_wp2_with fail
        refine (HX.out _ _).mono ?_
        rintro e u1 ⟨rfl, rfl⟩
        go_wp2_with fail
        refine (HX.out _ _).mono ?_
        rintro e u1 ⟨rfl, rfl⟩
        go_wp2_with fail
        refine (HF.out _ (HS.out.below b1) (HD.out.below b1) (HM.out.below b1)).mono ?_
        rintro e v2 ⟨rfl, b2⟩
        go_wp2_with fail
        refine (form_any a0 _ (by omega) (HS.out.below (chain b1 b2)) (HD.out.below (chain b1 b2)) (HM.out.below (chain b1 b2))).mono ?_
        rintro e v3 ⟨rfl, b3⟩
        go_wp2_with fail
        refine (form_any a1 _ (by omega) (HS.out.below (chain b1 (chain b2 b3))) (HD.out.below (chain b1 (chain b2 b3))) (HM.out.below (chain b1 (chain b2 b3)))).mono ?_
        rintro e v4 ⟨rfl, b4⟩
        go_wp2_with fail
        go_ret
        exact ⟨rfl, (chain b1 (chain b2 (chain b3 b4)))⟩

theorem own : ownKnob Tryd.prog.godebug = none := by kernel_rfl

set_option maxRecDepth 100000 in
theorem lifted (os : Os) (started : os.Started) (H : Type) (enc : TypeId × Value → H) :
    ReturnsInHanded {} Tryd.checked os 8 .any (fun w args => (Rows.escapeJoinsSpec.pre enc Tryd.prog Tryd.f8 [] false w args ∧ laidMetH Tryd.prog Rows.escapeJoinsRow.laid w) ∧ sizedMet enc Tryd.prog Tryd.f8 (OpenSpec.ofChange Rows.escapeJoinsSpec) false w args)
      (Rows.escapeJoinsSpec.post enc Tryd.prog Tryd.f8 false true false false) := by
  refine handed_shaped (C := Tryd.checked) (X := fun w _ => laidMetH Tryd.prog Rows.escapeJoinsRow.laid w) (fun _ _ _ hh h => h.of_heap hh) own started (by kernel_rfl) Tryd.func8
    (ChangeSpec.witness_shaped (enc := enc) (C := Tryd.checked) (os := os) (X := fun w _ => laidMetH Tryd.prog Rows.escapeJoinsRow.laid w) false (World.laidAll Tryd.prog os Rows.escapeJoinsRow.laid) #[.string ByteArray.empty, .string ByteArray.empty, .int .i64 0] 8 (World.laidAll_os _ _ _)
      (World.shaped_of_ZipB (by kernel_rfl) (by kernel_rfl)) (by kernel_rfl) (by kernel_rfl) (by kernel_rfl)
      (by rw [MakeChecks.laidMetH_plain _ _ _ (by kernel_rfl)]; exact laidMet_laidAll _ (by kernel_rfl) (by kernel_rfl))) ?_
  intro W base args ds gs before hval0 hW hL hsh
  have hval : ∀ (j : Nat) t v, Tryd.f8.params[j]? = some t → args[j]? = some v → Value.okWide Tryd.prog W .any base t v := hval0
  have hW' := hW
  obtain ⟨p, q, hA0, hV, rfl, _, _⟩ := hW
  have hA : DataW.TrodAll enc Tryd.prog W 0 (fun _ => true) true Tryd.f8.params.toList args.toList ds p := hA0
  rw [Tryd.params8] at hA hval
  obtain ⟨v0, vs0, d0, ds0, p0, q0, hargs, rfl, rfl, h0, r0⟩ := trodAll_cons hA
  obtain ⟨v1, vs1, d1, ds1, p1, q1, rfl, rfl, rfl, h1, r1⟩ := trodAll_cons r0
  obtain ⟨v2, vs2, d2, ds2, p2, q2, rfl, rfl, rfl, h2, r2⟩ := trodAll_cons r1
  obtain ⟨rfl, rfl, rfl⟩ := trodAll_nil r2
  obtain rfl : args = #[v0, v1, v2] := by cases args; simp_all
  obtain ⟨rfl, rfl⟩ := trodVars_none hV
  obtain ⟨a0, rfl, rfl, rfl, w0⟩ := open_string Tryd.underlying9 (hval 0 9 v0 rfl rfl) h0
  obtain ⟨a1, rfl, rfl, rfl, w1⟩ := open_string Tryd.underlying9 (hval 1 9 v1 rfl rfl) h1
  obtain ⟨a2, rfl, rfl, rfl, w2⟩ := open_int Tryd.underlying3 (hval 2 3 v2 rfl rfl) h2
  clear hA0 hval0
  rw [MakeChecks.laidMetH_plain _ _ _ (by kernel_rfl)] at hL
  refine (walk a0 a1 a2 w0 w1 w2 W (tabs_of hL) (max_of hsh)).mono fun e W' ⟨he, bel⟩ => ?_
  subst he
  exact ⟨_, rfl, _, _, _, [], _, [], hW', trodAll_mk1 (shut_bool Tryd.underlying4 _), (trodAll_cons_mk (shut_string Tryd.underlying9 w0) (trodAll_cons_mk (shut_string Tryd.underlying9 w1) (trodAll_cons_mk (shut_int Tryd.underlying3 w2) trodAll_mk0))), rfl, bel.frame _, fun h => by cases h⟩

theorem over : Rows.escapeJoinsRow.holds Tryd.pinned (OpenSpec.ofChange Rows.escapeJoinsSpec) :=
  OpenClaim.holds_of_wide 8 Tryd.f8 rfl rfl rfl rfl rfl rfl rfl ⟨rfl, rfl, rfl, rfl, rfl⟩ rfl rfl rfl rfl rfl (by kernel_rfl) Tryd.func8 (by kernel_rfl)
    (of_decide_eq_true (by kernel_rfl)) (by unfold Func.isWrapper; first | (rw [if_pos (by decide +kernel)]; kernel_rfl) | (rw [if_neg (by decide +kernel)]; exact ⟨rfl, rfl⟩))
    (fun os started H enc _ => lifted os started H enc)

theorem card : Rows.EscapeJoinsCardSaid :=
  Claim7.holds_tied_plain_at .later [] [.data, .data, .data, .pinned] true (true, "62e166001a4dbf42ea612a4b86c1c23d632900e804c16e55848f818be9d2646a") false over (fun _ h => by cases h) (by kernel_rfl) (fun _ h => by cases h) escapeJoins_row_tie rfl ⟨rfl, rfl⟩ (by kernel_rfl) rfl
    (fun f fn hf hfn => by
      obtain rfl : f = 8 := Option.some.inj ((show Tryd.prog.funcNamed Rows.escapeJoinsRow.func = some 8 by kernel_rfl).symm.trans hf) |>.symm
      obtain rfl : fn = Tryd.f8 := (Option.some.inj (Tryd.func8.symm.trans hfn)).symm
      exact ⟨by kernel_rfl, fun j t ht => by
        rw [Tryd.params8] at ht
        have hm : t ∈ [9, 9, 3] := by simpa using Array.mem_of_getElem? ht
        have hall : ([9, 9, 3].all fun u => !Tryd.prog.wantsStandIn u) = true := by kernel_rfl
        exact (show Tryd.prog.wantsStandIn t = false by simpa using List.all_eq_true.1 hall t hm)⟩)
    (by kernel_rfl)
end escapeJoins

theorem escapeJoins_holds : Rows.EscapeJoinsCardSaid := escapeJoins.card
#print axioms escapeJoins_holds
end Go.Proofs.YtcaoamccnibihaaDoor
